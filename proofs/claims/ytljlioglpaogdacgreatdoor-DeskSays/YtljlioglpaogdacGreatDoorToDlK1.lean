/- DcC Dc0 Dc1 Dc2 DlC DlDeal DlK4 DlWork DlA DlK1 -/
import Derived.Test.YtljlioglpaogdacGreatDoorToDdF
import Derived.Test.YtljlioglpaogdacGreatDoorToReadC
import Derived.Test.YtljlioglpaogdacGreatDoorToEnN
import Derived.Test.YtljlioglpaogdacGreatDoorToRDecC
namespace Go.Proofs.YtljlioglpaogdacGreatDoor
set_option linter.unusedVariables false
set_option maxRecDepth 100000
set_option maxHeartbeats 8000000
section
open Crm Go.RowKit
def Cic (v:ByteArray) (N:List Int) (d:Nat) (G:List Gt) (O:List Int) (out:ByteArray):Prop:=
 if v=vShow then out=otx (gtx G G.length) O O.length++okB
 else if v=vRun then ∃r,Cre G O G.length O.length N.length r/\out=sad (otl G O N O.length) r
 else ∃r,Ere G O G.length O.length (N.getD 0 0) (N.getD 1 0) (N.length-2) d r/\out=sad (otl G O (N.drop 2) O.length) r
def Cir (v:ByteArray) (N:List Int) (d:Nat) (T out:ByteArray):Prop:=∃G O at_ r,Par T G O at_ r/\((r≠0/\out=erB r++(spB++itb (at_:Int)))\/(r=0/\Cic v N d G O out))
def Cle (v:ByteArray) (N:List Int) (d:Nat) (T:ByteArray) (w:World) (e:Ending) (w':World):Prop:=∃out,e = .returned (.string out)/\Cir v N d T out/\Below w.heap.size w w'
theorem par_ck {s G O n} (h:Par s G O n 0):Cke G O G.length O.length 0:=by
 rcases h with ⟨_,_,_,_,h⟩ | ⟨_,⟨_,_,_,_,_,_,_,_,_,h⟩ | ⟨G0,O0,_,⟨_,_,_,_,h⟩ | ⟨_,_,h,⟨h1,_⟩ | ⟨_,rfl,rfl⟩⟩⟩⟩
 ·omega
 ·omega
 ·omega
 ·exact absurd rfl h1
 ·exact h
theorem par_at {s G O n r} (h:Par s G O n r):n<=s.size+1:=by
 have hl:=pcs_len s 10 s.size;have hn:lnn s=(lns s).length-1:=rfl;unfold lns at hn;rcases h with ⟨_,_,_,h,_⟩ | ⟨_,⟨_,_,_,_,_,_,_,_,h,_⟩ | ⟨_,_,_,⟨_,_,_,h,_⟩ | ⟨_,h,_⟩⟩⟩ <;> omega
theorem Nde.bd {G O N m n t r} (h:Nde G O N m n t r):0<=r/\r<=2:=by
 rcases h with ⟨_,h⟩ | ⟨_,⟨_,h⟩ | ⟨_,h⟩⟩
 ·exact h.bd
 ·omega
 ·omega
theorem txt_size {G O n m} (hG:okG G n) (hO:okO O n m) (hn:n<=30) (hm:m<=30):(otx (gtx G n) O m).size<=100000:=by
 have h1:=gtx_size hG hn n (Nat.le_refl _);have h2:=otx_size (t:=gtx G n) hO hn m (Nat.le_refl _);omega
theorem erj_size {r:Int} {n:Nat} (h0: -9223372036854775808<=r) (h1:r<=9223372036854775807) (hn:n<=9000000000000000000):(erB r++⟨#[32]⟩).size<=28/\(itb (n:Int)).size<=21:=by
 have:=erB_size r h0 h1;have:=sp_size;rw [ByteArray.size_append];exact ⟨by omega,itb_size _ (by omega) (by omega)⟩
theorem rCircShow (p:Nat) (T:ByteArray) (a k c N a2 d c2 D) (w:World) (hcT:w.cell? ⟨p,0,none⟩=some (.string T)) (hTz:T.size<=9000000000) (r0:RdI w a k c N) (r2:RdI w a2 d c2 D) (hN:∀x ∈ N,0<=x/\x<=9999999999) (hk5:k<=100000) (hk:0<=k) (hT:Tabs w) (hV:Vb w):
  Calls Tryz.prog 34 #[.pointer (some ⟨p,0,none⟩),.string vShow,.slice a k c,.slice a2 d c2] w (Cle vShow N d T w):=by
 obtain ⟨v,HV⟩:=nmd vShow;have q0:(v.toList == [115,104,111,119])=true:=by rw [<- HV.out];decide +kernel
 have q1:=qf6 HV (by decide +kernel);rw [HV.out];have aI:=r0.len;have aJ:=r0.cap;have ay:=r0.max;have aq:=r2.max;have aH:=r2.cap;unfold maxLen at ay aq;have HN:=hid hN;clear hN;have aC:p<w.heap.size:=World.block_lt_of_cell? w ⟨p,0,none⟩ hcT;go_enter Tryz.func34,Tryz.ntmps34;go_wp2_with fail;refine (rRead T _ (by omega) hV).mono ?_;rintro e w1 ⟨ag,cg,ao,co,aa,r,G,O,rfl,hP,ho,hi,ai⟩;obtain ⟨b1,b2⟩:=hP.gbd;have hG:=RdG.ownA ho rfl b1;have hI:=RdI.ownA hi b2;have aK:=hP.bd;have aL:=par_at hP;have HP:=hid hP;obtain ⟨n,aj⟩:=nmd G.length;obtain ⟨m,ak⟩:=nmd O.length;rw [aj.out] at hG ⊢;rw [ak.out] at hI ⊢;have hC:=CBox.new w1 ag n cg ao m co;have al:Below w1.heap.size w1 (w1.alloc (.cells #[.slice ag n cg,.slice ao m co] 89)):=bal _ _;have hG:=hG.below al;have hI:=hI.below al;have ab:=btr ai al;obtain ⟨gc,aD⟩:=nmd w1.heap.size;clear ho hi hP b1 b2;by_cases hr:r=0
 ·subst hr;have HK:Hid (Cke G O n m 0):=by unfold Hid;rw [<- aj.out,<- ak.out];exact par_ck HP.out
  have am:=HK.out.ok.1;have an:=HK.out.ok.2.1;have af:=hid HK.out.ok.2.2;have aE:Hid (∀out,Cic v N d G O out->Cir vShow N d T out):=λout h=>⟨G,O,aa,0,HP.out,.inr ⟨rfl,by rw [HV.out];exact h⟩⟩;go_upto_if 4 with fail;generalize w1.alloc (.cells #[.slice ag n cg,.slice ao m co] 89)=w2 at *;rw [aD.out] at hC ⊢;obtain ⟨d0,d1⟩:=hC.cells;have aM:=hC.lt;clear hcT aC ai;have aN:(otx (gtx G n) O m).size<=100000:=txt_size af.out.1 af.out.2 am.2 an.2;have aF:Hid (Cic v N d G O (otx (gtx G n) O m++okB)):=by unfold Hid Cic;rw [if_pos HV.out.symm,aj.out,ak.out]
  obtain ⟨X,HX⟩:=nmd (otx (gtx G n) O m);have a1:=add_big (P:=Tryz.prog) X ⟨#[111,107]⟩ (by rw [<- HX.out];have:(⟨#[111,107]⟩:ByteArray).size=2:=rfl;omega);obtain ⟨Y,HY⟩:=nmd (X++⟨#[111,107]⟩);rw [HY.out] at a1;have az:Hid (Cir vShow N d T Y):=by have:=aE.out _ aF.out;rw [HX.out] at this;rw [<- HY.out];exact this
  have ae:=hT.below ab;have ar:=hV.below ab;go_wp2_with fail;refine (rText _ _ _ _ _ _ _ _ _ hG hI am.2 an.2 af.out.1 af.out.2 ae ar).mono ?_;rintro e w3 ⟨rfl,ad⟩;rw [HX.out];have aA:=btr ab ad;clear hG hI ad ae ar d0 d1 hC;go_wp2;go_ret;exact ⟨Y,rfl,by rw [<- HV.out];exact az.out,aA⟩
 ·have aO:(r != 0)=true:=by rw [bne_iff_ne];exact hr
  have HE:Hid (Cir vShow N d T (erB r++(spB++itb (aa:Int)))):=⟨G,O,aa,r,HP.out,.inl ⟨hr,rfl⟩⟩;have au:Hid (erB r++(spB++itb (aa:Int))=(erB r++⟨#[32]⟩)++itb (aa:Int)):=by unfold Hid;rw [ByteArray.append_assoc];rfl
  have aG:=erj_size (r:=r) (n:=aa) (by omega) (by omega) (by omega);have a1:=add_big (P:=Tryz.prog) (erB r) ⟨#[32]⟩ (by have:=erB_size r (by omega) (by omega);have:=sp_size;omega);have av:=add_big (P:=Tryz.prog) (erB r++⟨#[32]⟩) (itb (aa:Int)) (by omega);rw [<- au.out] at av;obtain ⟨E,ah⟩:=nmd (erB r);obtain ⟨E2,aw⟩:=nmd (E++⟨#[32]⟩);obtain ⟨U,HU⟩:=nmd (itb (aa:Int));obtain ⟨X,HX⟩:=nmd (E++(spB++U));rw [ah.out,aw.out] at a1;rw [ah.out,aw.out,HU.out,HX.out] at av;rw [ah.out,HU.out,HX.out] at HE;clear hr au aG;go_upto_if 4 with fail;generalize w1.alloc (.cells #[.slice ag n cg,.slice ao m co] 89)=w2 at *;have ae:=hT.below ab;clear hC hG hI;go_wp2_with fail;refine (rWrong r _ (by omega) (by omega) ae).mono ?_;rintro e w3 ⟨rfl,ad⟩;rw [ah.out];go_wp2_with fail;refine (sItoa _ _ (by omega) (by omega) (ae.below ad)).mono ?_;rintro e w4 ⟨rfl,ax⟩;rw [HU.out];have ap:=btr ad ax;have aB:=btr ab ap;clear ad ax ap ae;go_wp2;go_ret;exact ⟨X,rfl,by rw [<- HV.out] at *;exact HE.out,aB⟩
theorem rCircRun (p:Nat) (T:ByteArray) (a k c N a2 d c2 D) (w:World) (hcT:w.cell? ⟨p,0,none⟩=some (.string T)) (hTz:T.size<=9000000000) (r0:RdI w a k c N) (r2:RdI w a2 d c2 D) (hN:∀x ∈ N,0<=x/\x<=9999999999) (hk5:k<=100000) (hk:0<=k) (hT:Tabs w) (hV:Vb w):
  Calls Tryz.prog 34 #[.pointer (some ⟨p,0,none⟩),.string vRun,.slice a k c,.slice a2 d c2] w (Cle vRun N d T w):=by
 obtain ⟨v,HV⟩:=nmd vRun;have q0:=qf7 HV (by decide +kernel);have q1:=qf6 HV (by decide +kernel);rw [HV.out];have aw:=r0.len;have bf:=r0.cap;have aT:=r0.max;have aE:=r2.max;have be:=r2.cap;unfold maxLen at aT aE;have HN:=hid hN;clear hN;have aX:p<w.heap.size:=World.block_lt_of_cell? w ⟨p,0,none⟩ hcT;go_enter Tryz.func34,Tryz.ntmps34;go_wp2_with fail;refine (rRead T _ (by omega) hV).mono ?_;rintro e w1 ⟨ag,cg,ao,co,ae,r,G,O,rfl,hP,ho,hi,ax⟩;obtain ⟨b1,b2⟩:=hP.gbd;have hG:=RdG.ownA ho rfl b1;have hI:=RdI.ownA hi b2;have bg:=hP.bd;have bh:=par_at hP;have HP:=hid hP;obtain ⟨n,aq⟩:=nmd G.length;obtain ⟨m,aj⟩:=nmd O.length;rw [aq.out] at hG ⊢;rw [aj.out] at hI ⊢;have hC:=CBox.new w1 ag n cg ao m co;have ay:Below w1.heap.size w1 (w1.alloc (.cells #[.slice ag n cg,.slice ao m co] 89)):=bal _ _;have hG:=hG.below ay;have hI:=hI.below ay;have ab:=btr ax ay;obtain ⟨gc,aY⟩:=nmd w1.heap.size;clear ho hi hP b1 b2;by_cases hr:r=0
 ·subst hr;have HK:Hid (Cke G O n m 0):=by unfold Hid;rw [<- aq.out,<- aj.out];exact par_ck HP.out
  have az:=HK.out.ok.1;have aU:=HK.out.ok.2.1;have aF:=hid HK.out.ok.2.2;have aG:Hid (∀out,Cic v N d G O out->Cir vRun N d T out):=λout h=>⟨G,O,ae,0,HP.out,.inr ⟨rfl,by rw [HV.out];exact h⟩⟩;go_upto_if 4 with fail;generalize w1.alloc (.cells #[.slice ag n cg,.slice ao m co] 89)=w2 at *;rw [aY.out] at hC ⊢;obtain ⟨d0,d1⟩:=hC.cells;have aA:=hC.lt;clear hcT aX ax;have aB:Hid (∀w',Below w2.heap.size w2 w'->w'.cell? ⟨gc,0,none⟩=some (.slice ag n cg)/\w'.cell? ⟨gc,1,none⟩=some (.slice ao m co)/\gc<w'.heap.size/\RdG w' ag n cg G/\RdI w' ao m co O/\Tabs w'):=λw' hb=>⟨(hC.below hb aA).cells.1,(hC.below hb aA).cells.2,(hC.below hb aA).lt,hG.below hb,hI.below hb,(hT.below ab).below hb⟩;have aH:=r0.below ab;have aZ:=ci_le G n;have a0:Hid (∀x ∈ whl G n,-9223372036854775808<=x/\x<=9223372036854775807):=whl_bd (λi hi=>(hG.bd i hi).2.1) n (Nat.le_refl _);clear hG hI hC r0 r2;go_wp2_with fail;refine (rWide _ _ _ N _ aH (by omega) HN.out).mono ?_;rintro e w3 ⟨v3,rfl,aI,ad⟩;obtain ⟨a3,c3,rfl,ar,_⟩:=Rd.own aI (λx hx=>by have:=HN.out x hx;omega);have bi:=ar.cap;have a5:=ar.max;unfold maxLen at a5;obtain ⟨e0,e1,el,aJ,a7,a8⟩:=aB.out w3 ad;clear aI aH d0 d1;go_wp2_with fail;refine (rWhose _ _ _ _ _ _ _ _ aJ (by omega)).mono ?_;rintro e w4 ⟨v4,rfl,aK,ah⟩;obtain ⟨a4,c4,rfl,au⟩:=RdI.own aK a0.out;have a9:=au.cap;have ba:=au.max;unfold maxLen at ba;have aa:=btr ad ah;obtain ⟨f0,f1,fl,ak,al,ai⟩:=aB.out w4 aa;have aV:=ar.below ah;obtain ⟨l,HL⟩:=nmd (ci G n);rw [HL.out] at au a9 aZ ⊢;clear aK au ar aJ a7 a8 e0 e1 el ad ah;by_cases hq:k=l
  ·subst hq;have aC:Hid (Cre G O n m k 0):=.inr ⟨HK.out,.inr ⟨HL.out.symm,rfl⟩⟩;have bb:((k:Int) != (k:Int))=false:=by simp
   have am:Hid (Cir vRun N d T (sad (otl G O N m) 0)):=aG.out _ (by unfold Cic;rw [if_neg (by rw [<- HV.out];decide),if_pos HV.out.symm];exact ⟨0,by rw [aq.out,aj.out,aw];exact aC.out,by rw [aj.out]⟩);go_wp2_with fail;go_quiet (fail);have aL:Below w4.heap.size w4 (w4.drewN nq):=drewN_below (Below.refl _ _) nq;generalize w4.drewN nq=w5 at *;have an:=btr aa aL;clear f0 f1 fl ak al ai;obtain ⟨f0,f1,fl,ak,al,ai⟩:=aB.out w5 an;have aM:=aV.below aL;go_wp2_with fail;refine (rOuts _ _ _ _ _ _ _ _ _ _ _ _ _ ak al aM az.1 az.2 aU.2 aF.out.1 aF.out.2 (by rw [HL.out])).mono ?_;rintro e w6 ⟨v6,rfl,aN,af⟩;obtain ⟨a6,c6,rfl,aO,_⟩:=Rd.own aN (bd_u64 (otl_bd G O _ m));clear aN f0 f1 fl ak al aM;go_wp2_with fail;refine (rSaid _ _ _ _ 0 _ aO (by omega) (by omega) (by omega) (ai.below af)).mono ?_;rintro e w7 ⟨rfl,aP⟩;have ap:=ab.trans ((an.trans ((btr af aP).mono an.size)).mono ab.size);obtain ⟨X,HX⟩:=nmd (sad (otl G O N m) 0);rw [HX.out] at am ⊢;clear aO af aP ai;go_wp2;go_ret;exact ⟨X,rfl,by rw [<- HV.out];exact am.out,ap⟩
  ·have aC:Hid (Cre G O n m k 5):=.inr ⟨HK.out,.inl ⟨λe=>hq (e.trans HL.out),rfl⟩⟩;have bb:((k:Int) != (l:Int))=true:=by rw [bne_iff_ne];omega
   have am:Hid (Cir vRun N d T (erB 5)):=aG.out _ (by unfold Cic;rw [if_neg (by rw [<- HV.out];decide),if_pos HV.out.symm];exact ⟨5,by rw [aq.out,aj.out,aw];exact aC.out,rfl⟩);clear hq;go_wp2_with fail;refine (rWrong 5 _ (by omega) (by omega) ai).mono ?_;rintro e w6 ⟨rfl,af⟩;have ap:=ab.trans ((btr aa af).mono ab.size);obtain ⟨X,HX⟩:=nmd (erB 5);rw [HX.out] at am ⊢;clear af ai f0 f1 fl ak al;go_wp2;go_ret;exact ⟨X,rfl,by rw [<- HV.out];exact am.out,ap⟩
 ·have bj:(r != 0)=true:=by rw [bne_iff_ne];exact hr
  have HE:Hid (Cir vRun N d T (erB r++(spB++itb (ae:Int)))):=⟨G,O,ae,r,HP.out,.inl ⟨hr,rfl⟩⟩;have aQ:Hid (erB r++(spB++itb (ae:Int))=(erB r++⟨#[32]⟩)++itb (ae:Int)):=by unfold Hid;rw [ByteArray.append_assoc];rfl
  have bc:=erj_size (r:=r) (n:=ae) (by omega) (by omega) (by omega);have a1:=add_big (P:=Tryz.prog) (erB r) ⟨#[32]⟩ (by have:=erB_size r (by omega) (by omega);have:=sp_size;omega);have aR:=add_big (P:=Tryz.prog) (erB r++⟨#[32]⟩) (itb (ae:Int)) (by omega);rw [<- aQ.out] at aR;obtain ⟨E,av⟩:=nmd (erB r);obtain ⟨E2,aS⟩:=nmd (E++⟨#[32]⟩);obtain ⟨U,HU⟩:=nmd (itb (ae:Int));obtain ⟨X,HX⟩:=nmd (E++(spB++U));rw [av.out,aS.out] at a1;rw [av.out,aS.out,HU.out,HX.out] at aR;rw [av.out,HU.out,HX.out] at HE;clear hr aQ bc;go_upto_if 4 with fail;generalize w1.alloc (.cells #[.slice ag n cg,.slice ao m co] 89)=w2 at *;have aD:=hT.below ab;clear hC hG hI;go_wp2_with fail;refine (rWrong r _ (by omega) (by omega) aD).mono ?_;rintro e w3 ⟨rfl,ad⟩;rw [av.out];go_wp2_with fail;refine (sItoa _ _ (by omega) (by omega) (aD.below ad)).mono ?_;rintro e w4 ⟨rfl,ah⟩;rw [HU.out];have aa:=btr ad ah;have aW:=btr ab aa;clear ad ah aa aD;go_wp2;go_ret;exact ⟨X,rfl,by rw [<- HV.out] at *;exact HE.out,aW⟩
theorem rCircWork (p:Nat) (T:ByteArray) (a k c N a2 d c2 D) (w:World) (hcT:w.cell? ⟨p,0,none⟩=some (.string T)) (hTz:T.size<=9000000000) (r0:RdI w a k c N) (r2:RdI w a2 d c2 D) (hN:∀x ∈ N,0<=x/\x<=9999999999) (hk5:k<=100000) (hk:2<=k) (hT:Tabs w) (hV:Vb w):
  Calls Tryz.prog 34 #[.pointer (some ⟨p,0,none⟩),.string vWork,.slice a k c,.slice a2 d c2] w (Cle vWork N d T w):=by
 obtain ⟨v,HV⟩:=nmd vWork;have q0:=qf7 HV (by decide +kernel);have q1:(v.toList == [119,111,114,107])=true:=by rw [<- HV.out];decide +kernel
 rw [HV.out];have aK:=r0.len;have bm:=r0.cap;have bo:=r0.max;have a5:=r2.max;have bX:=r2.cap;unfold maxLen at bo a5;have HN:=hid hN;clear hN;have bF:p<w.heap.size:=World.block_lt_of_cell? w ⟨p,0,none⟩ hcT;go_enter Tryz.func34,Tryz.ntmps34;go_wp2_with fail;refine (rRead T _ (by omega) hV).mono ?_;rintro e w1 ⟨ag,cg,ao,co,aj,r,G,O,rfl,hP,ho,hi,aL⟩;obtain ⟨b1,b2⟩:=hP.gbd;have hG:=RdG.ownA ho rfl b1;have hI:=RdI.ownA hi b2;have b4:=hP.bd;have b5:=par_at hP;have HP:=hid hP;obtain ⟨n,aM⟩:=nmd G.length;obtain ⟨m,aB⟩:=nmd O.length;rw [aM.out] at hG ⊢;rw [aB.out] at hI ⊢;have hC:=CBox.new w1 ag n cg ao m co;have aN:Below w1.heap.size w1 (w1.alloc (.cells #[.slice ag n cg,.slice ao m co] 89)):=bal _ _;have hG:=hG.below aN;have hI:=hI.below aN;have aa:=btr aL aN;obtain ⟨gc,bG⟩:=nmd w1.heap.size;clear ho hi hP b1 b2;by_cases hr:r=0
 ·subst hr;have HK:Hid (Cke G O n m 0):=by unfold Hid;rw [<- aM.out,<- aB.out];exact par_ck HP.out
  have aO:=HK.out.ok.1;have bp:=HK.out.ok.2.1;have a6:=hid HK.out.ok.2.2;have bH:Hid (∀out,Cic v N d G O out->Cir vWork N d T out):=λout h=>⟨G,O,aj,0,HP.out,.inr ⟨rfl,by rw [HV.out];exact h⟩⟩;go_upto_if 4 with fail;generalize w1.alloc (.cells #[.slice ag n cg,.slice ao m co] 89)=w2 at *;rw [bG.out] at hC ⊢;obtain ⟨d0,d1⟩:=hC.cells;have aP:=hC.lt;clear hcT bF aL;obtain ⟨K2,rfl⟩:∃K2,k=K2+2:=⟨k-2,by omega⟩;have ax:=r0.below aa;obtain ⟨ah,ak,x0,bI,aA,bJ,bq,br,a7⟩:=ax.one (show 0<K2+2 by omega);subst bI;obtain ⟨b6,b7,x1,a9,bY,bK,bu,bv,bL⟩:=ax.one (show 1<K2+2 by omega);simp only [Option.some.injEq,Addr.mk.injEq,and_true] at a9;obtain ⟨rfl,rfl⟩:=a9;rw [Nat.add_zero] at a7;have an:Hid (∀w',Below w2.heap.size w2 w'->w'.cell? ⟨gc,0,none⟩=some (.slice ag n cg)/\w'.cell? ⟨gc,1,none⟩=some (.slice ao m co)/\gc<w'.heap.size/\RdG w' ag n cg G/\RdI w' ao m co O/\Tabs w'/\w'.cell? ⟨ah,ak,none⟩=some (.int .i64 x0)/\w'.cell? ⟨ah,ak+1,none⟩=some (.int .i64 x1)/\ah<w'.heap.size):=λw' hb=>
   ⟨(hC.below hb aP).cells.1,(hC.below hb aP).cells.2,(hC.below hb aP).lt,hG.below hb,hI.below hb,(hT.below aa).below hb,by rw [hb.cell (p:=⟨ah,ak,none⟩) aA];exact a7,by rw [hb.cell (p:=⟨ah,ak+1,none⟩) aA];exact bL,Nat.lt_of_lt_of_le aA hb.size⟩
  have bM:=ci_le G n;have bN:Hid (∀x ∈ whl G n,-9223372036854775808<=x/\x<=9223372036854775807):=whl_bd (λi hi=>(hG.bd i hi).2.1) n (Nat.le_refl _);obtain ⟨N2,aQ⟩:=nmd (N.drop 2);have aC:Hid (∀r out,Ere G O n m x0 x1 K2 d r->out=sad (otl G O N2 m) r->Cir vWork N d T out):=λr out hE ho=>bH.out _ (by
   unfold Cic;rw [if_neg (by rw [<- HV.out];decide),if_neg (by rw [<- HV.out];decide)];exact ⟨r,by rw [aM.out,aB.out,bJ.out,bK.out,aK];exact hE,by rw [aQ.out,aB.out];exact ho⟩)
  have bw:(0:Int)<(((K2+2:Nat):Nat):Int):=by omega
  have bx:(1:Int)<(((K2+2:Nat):Nat):Int):=by omega
  have bz:0<K2+2:=by omega
  have bA:1<K2+2:=by omega
  obtain ⟨k,ay⟩:=nmd (K2+2);have b8:K2<=100000:=by omega
  rw [ay.out] at ax hk5 bm bw bx bz bA ⊢;clear hG hI hC r0 r2 hk;go_wp2_with fail;refine (rWide _ _ _ N _ ax (by omega) HN.out).mono ?_;rintro e w3 ⟨v3,rfl,ba,al⟩;obtain ⟨a3,c3,rfl,aD,_⟩:=Rd.own ba (λx hx=>by have:=HN.out x hx;omega);have b9:=aD.cap;have bO:=aD.max;unfold maxLen at bO;obtain ⟨e0,e1,el,ca,cb,cc,e6,e7,e8⟩:=an.out w3 al;have ai:Below w2.heap.size w2 w3.drew:=al.drew;obtain ⟨z0,z1,zl,aR,aS,bB,z6,z7,z8⟩:=an.out w3.drew ai;clear ba ax d0 d1;go_wp2;go_region_held3 (λw'=>w'.cell? ⟨gc,0,none⟩=some (.slice ag n cg)/\w'.cell? ⟨gc,1,none⟩=some (.slice ao m co)/\w'.cell? ⟨ah,ak,none⟩=some (.int .i64 x0)/\w'.cell? ⟨ah,ak+1,none⟩=some (.int .i64 x1)) (go_keep) (first | (go_at_call 79;refine (rCrew _ _ _ _ _ _ _ _ x0 x1 _ aR aS ⟨bq,br⟩ ⟨bu,bv⟩).mono ?_;rintro e w5 ⟨r5,rfl,ap,aE⟩;obtain ⟨y0,y1,yl,az,aF,aq,y6,y7,y8⟩:=an.out w5 (btr ai aE)))
  all_goals
   have am:=btr ai aE;have aT:=aD.drew.below aE;clear z0 z1 zl aR aS bB z6 z7 z8 aE ai aD al;by_cases hr:r5=0
   ·subst hr;obtain ⟨_,o1,o2,o3,_⟩:=ap.ok;have bb:=hid ap;obtain ⟨n',rfl⟩:∃n':Nat,x0=n':=⟨x0.toNat,by omega⟩;obtain ⟨t',rfl⟩:∃t':Nat,x1=t':=⟨x1.toNat,by omega⟩;obtain ⟨sa,bc⟩:=nmd (subA a3 c3 2);have hsl:∀W,(Instr.sliceAt 52 (.slice a3 k c3) (some (.int .i64 2)) none none).run Tryz.prog W = .ok (.slice sa K2 (c3-2)) W:=λW=>by
     rw [<- bc.out];have e:=run_subl Tryz.underlying52 infoU1 a3 k c3 2 (l:=2) rfl (by omega) W;rw [show k-2=K2 by rw [<- ay.out];omega] at e;exact e
    have ar:Rd w5 sa K2 (c3-2) N2:=by
     have e:=aT.sub (lo:=2) (k:=K2) (by rw [<- ay.out];omega);rw [bc.out,aQ.out,List.take_of_length_le (by rw [<- aQ.out,List.length_drop,aK];omega)] at e;exact e
    have cd:=ar.cap;have bP:=ar.max;unfold maxLen at bP;have ce:(2:Int)<=(k:Int):=by rw [<- ay.out];omega
    have bZ:2<=k:=by rw [<- ay.out];omega
    clear ap aT;go_wp2_with fail;refine (rWhose _ _ _ _ _ _ _ _ az (by omega)).mono ?_;rintro e w6 ⟨v4,rfl,be,au⟩;obtain ⟨a4,c4,rfl,aG⟩:=RdI.own be bN.out;have bQ:=aG.cap;have bR:=aG.max;unfold maxLen at bR;have av:=btr am au;have ar:=ar.below au;obtain ⟨l,HL⟩:=nmd (ci G n);rw [HL.out] at aG bQ bM ⊢;clear y0 y1 yl az aF aq y6 y7 y8 be aG au am;obtain ⟨y0,y1,yl,az,aF,aq,y6,y7,y8⟩:=an.out w6 av;by_cases hq:K2=l
    ·have bS:((K2:Int) != (l:Int))=false:=by rw [bne_eq_false_iff_eq];omega
     have HQ:Hid (K2=ci G n):=by unfold Hid;rw [HL.out];exact hq
     clear hq;have ae:Below w2.heap.size w2 w6.drew:=av.drew;obtain ⟨z0,z1,zl,aU,bC,bD,z6,z7,z8⟩:=an.out w6.drew ae;have bT:=dwn_le G (n:=n') (t:=t') (by omega) (by omega) n;obtain ⟨DD,aV⟩:=nmd (dwn G n' t' n);rw [aV.out] at bT;have bf:Hid (∀r,((d≠DD/\r=1)\/(d=DD/\r=0))->Ere G O n m n' t' K2 d r):=λr h=>.inr ⟨bb.out,.inr ⟨HQ.out,by rw [Int.toNat_natCast,Int.toNat_natCast,aV.out];exact h⟩⟩;go_wp2;go_region_held3 (λw'=>w'.cell? ⟨gc,0,none⟩=some (.slice ag n cg)/\w'.cell? ⟨gc,1,none⟩=some (.slice ao m co)/\w'.cell? ⟨ah,ak,none⟩=some (.int .i64 (n':Int))/\w'.cell? ⟨ah,ak+1,none⟩=some (.int .i64 (t':Int))) (go_keep) (first | (go_at_call 81;refine (rDraws _ _ _ _ _ _ _ n' t' _ aU (by omega) (by omega) (by omega)).mono ?_;rintro e w7 ⟨rfl,aH⟩;rw [aV.out];obtain ⟨u0,u1,ul,aW,aX,aI,u6,u7,u8⟩:=an.out w7 (btr ae aH)))
     all_goals
      have aw:=btr ae aH;have aY:=ar.drew.below aH;clear z0 z1 zl aU bC bD z6 z7 z8 aH ae;by_cases hd:d=DD
      ·have bU:((d:Int) != (DD:Int))=false:=by rw [bne_eq_false_iff_eq];omega
       have ad:=aC.out 0 _ (bf.out 0 (.inr ⟨hd,rfl⟩)) rfl;clear hd;go_wp2_with fail;refine (rOuts _ _ _ _ _ _ _ _ _ _ _ _ _ aW aX aY aO.1 aO.2 bp.2 a6.out.1 a6.out.2 HQ.out).mono ?_;rintro e w8 ⟨v8,rfl,bg,ab⟩;obtain ⟨a8,c8,rfl,bh,_⟩:=Rd.own bg (bd_u64 (otl_bd G O _ m));clear bg u0 u1 ul aW aX aY u6 u7 u8;go_wp2_with fail;refine (rSaid _ _ _ _ 0 _ bh (by omega) (by omega) (by omega) (aI.below ab)).mono ?_;rintro e w9 ⟨rfl,bi⟩;have af:=aa.trans ((aw.trans ((btr ab bi).mono aw.size)).mono aa.size);obtain ⟨X,HX⟩:=nmd (sad (otl G O N2 m) 0);rw [HX.out] at ad ⊢;have bV:=hid ad;clear bh ab bi aI ad;go_wp2;go_ret;exact ⟨X,rfl,by rw [<- HV.out];exact bV.out,af⟩
      ·have bU:((d:Int) != (DD:Int))=true:=by rw [bne_iff_ne];omega
       have ad:Hid (Cir vWork N d T (erB 1)):=aC.out 1 _ (bf.out 1 (.inl ⟨hd,rfl⟩)) rfl;clear hd;go_wp2_with fail;refine (rWrong 1 _ (by omega) (by omega) aI).mono ?_;rintro e w8 ⟨rfl,ab⟩;have af:=aa.trans ((btr aw ab).mono aa.size);obtain ⟨X,HX⟩:=nmd (erB 1);rw [HX.out] at ad ⊢;clear ab aI u0 u1 ul aW aX aY u6 u7 u8;go_wp2;go_ret;exact ⟨X,rfl,by rw [<- HV.out];exact ad.out,af⟩
    ·have bS:((K2:Int) != (l:Int))=true:=by rw [bne_iff_ne];omega
     have ad:Hid (Cir vWork N d T (erB 5)):=aC.out 5 _ (.inr ⟨bb.out,.inl ⟨λe=>hq (e.trans HL.out),rfl⟩⟩) rfl;clear hq;go_wp2_with fail;refine (rWrong 5 _ (by omega) (by omega) aq).mono ?_;rintro e w8 ⟨rfl,ab⟩;have af:=aa.trans ((btr av ab).mono aa.size);obtain ⟨X,HX⟩:=nmd (erB 5);rw [HX.out] at ad ⊢;clear ab aq y0 y1 yl az aF ar y6 y7 y8;go_wp2;go_ret;exact ⟨X,rfl,by rw [<- HV.out];exact ad.out,af⟩
   ·have b0:(r5 != 0)=true:=by rw [bne_iff_ne];exact hr
    have ad:Hid (Cir vWork N d T (erB r5)):=aC.out r5 _ (.inl ⟨hr,ap⟩) (by unfold sad;rw [if_neg hr]);have b3:=ap.bd;clear hr ap;go_wp2_with fail;refine (rWrong r5 _ (by omega) (by omega) aq).mono ?_;rintro e w8 ⟨rfl,ab⟩;have af:=aa.trans ((btr am ab).mono aa.size);obtain ⟨X,HX⟩:=nmd (erB r5);rw [HX.out] at ad ⊢;clear ab aq y0 y1 yl az aF aT y6 y7 y8;go_wp2;go_ret;exact ⟨X,rfl,by rw [<- HV.out];exact ad.out,af⟩
 ·have cf:(r != 0)=true:=by rw [bne_iff_ne];exact hr
  have HE:Hid (Cir vWork N d T (erB r++(spB++itb (aj:Int)))):=⟨G,O,aj,r,HP.out,.inl ⟨hr,rfl⟩⟩;have bj:Hid (erB r++(spB++itb (aj:Int))=(erB r++⟨#[32]⟩)++itb (aj:Int)):=by unfold Hid;rw [ByteArray.append_assoc];rfl
  have bW:=erj_size (r:=r) (n:=aj) (by omega) (by omega) (by omega);have a1:=add_big (P:=Tryz.prog) (erB r) ⟨#[32]⟩ (by have:=erB_size r (by omega) (by omega);have:=sp_size;omega);have bk:=add_big (P:=Tryz.prog) (erB r++⟨#[32]⟩) (itb (aj:Int)) (by omega);rw [<- bj.out] at bk;obtain ⟨E,aJ⟩:=nmd (erB r);obtain ⟨E2,bl⟩:=nmd (E++⟨#[32]⟩);obtain ⟨U,HU⟩:=nmd (itb (aj:Int));obtain ⟨X,HX⟩:=nmd (E++(spB++U));rw [aJ.out,bl.out] at a1;rw [aJ.out,bl.out,HU.out,HX.out] at bk;rw [aJ.out,HU.out,HX.out] at HE;clear hr bj bW;go_upto_if 4 with fail;generalize w1.alloc (.cells #[.slice ag n cg,.slice ao m co] 89)=w2 at *;have aZ:=hT.below aa;clear hC hG hI;go_wp2_with fail;refine (rWrong r _ (by omega) (by omega) aZ).mono ?_;rintro e w3 ⟨rfl,al⟩;rw [aJ.out];go_wp2_with fail;refine (sItoa _ _ (by omega) (by omega) (aZ.below al)).mono ?_;rintro e w4 ⟨rfl,au⟩;rw [HU.out];have a0:=btr al au;have bE:=btr aa a0;clear al au a0 aZ;go_wp2;go_ret;exact ⟨X,rfl,by rw [<- HV.out] at *;exact HE.out,bE⟩
structure Bnc (w0 w:World) (p:Nat) (G:Nat->Prop) (T:ByteArray) (S:Option Kt):Prop where
 row:∃q,w.heap[p]? = some (.cells #[.string T,.pointer q] 46 (0,0))/\((S=none/\q=none)\/∃s b,S=some s/\q=some ⟨b,0,none⟩/\Stx 124 w b G s)
 lt:∀i,G i->i<w.heap.size
 off:¬ G p
 low:∀i,G i->w0.heap.size<=i
 lp:w0.heap.size<=p
 bel:Below w0.heap.size w0 w
theorem Bnc.plt {w0 w p G T S} (h:Bnc w0 w p G T S):p<w.heap.size:=by
 obtain ⟨q,h1,_⟩:=h.row;exact (Array.getElem?_eq_some_iff.1 h1).1
theorem Bnc.text {w0 w p G T S} (h:Bnc w0 w p G T S):w.cell? ⟨p,0,none⟩=some (.string T)/\w.frozen? ⟨p,0,none⟩=false:=by
 obtain ⟨q,h1,_⟩:=h.row;exact ⟨by rw [cell_of_row w p _ _ _ (0,0) h1];rfl,frozen_of_row w p 0 _ _ h1⟩
theorem Bnc.gnx {w0 w w' p G T S} (h:Bnc w0 w p G T S) (hb:Below w.heap.size w w'):Bnc w0 w' p (Gnx G w w') T S:=by
 have hp:=h.plt;obtain ⟨q,h1,h2⟩:=h.row;refine ⟨⟨q,by rw [hb.block p hp];exact h1,or_to h2 λ⟨s,b,e1,e2,e3⟩=>⟨s,b,e1,e2,e3.below hb⟩⟩,Gnx.lt h.lt hb.size,λe=>e.elim h.off (λe=>by omega),Gnx.ge h.low h.bel.size,h.lp,btr h.bel hb⟩
theorem Bnc.same {w0 w w' p G T S} (h:Bnc w0 w p G T S) (hb:Below w.heap.size w w'):Bnc w0 w' p G T S:=by
 have hp:=h.plt;obtain ⟨q,h1,h2⟩:=h.row;exact ⟨⟨q,by rw [hb.block p hp];exact h1,or_to h2 λ⟨s,b,e1,e2,e3⟩=>⟨s,b,e1,e2,e3.same hb⟩⟩,λi g=>Nat.lt_of_lt_of_le (h.lt i g) hb.size,h.off,h.low,h.lp,btr h.bel hb⟩
theorem Bnc.put {w0 w p G T S} (h:Bnc w0 w p G T S) (U:ByteArray):Bnc w0 (w.setCell ⟨p,0,none⟩ (.string U)) p G U S/\Tch w (w.setCell ⟨p,0,none⟩ (.string U)) (λi=>G i\/i=p):=by
 have hp:=h.plt;obtain ⟨q,h1,h2⟩:=h.row;have hs:=heap_setCell_same w p 0 _ _ (.string U) h1;have ho:∀i,i≠p->(w.setCell ⟨p,0,none⟩ (.string U)).heap[i]? = w.heap[i]?:=λi hi=>heap_setCell_other w ⟨p,0,none⟩ i _ hi;have hz:(w.setCell ⟨p,0,none⟩ (.string U)).heap.size=w.heap.size:=by simp
 refine ⟨⟨⟨q,by rw [hs];rfl,or_to h2 λ⟨s,b,e1,e2,e3⟩=>⟨s,b,e1,e2,e3.keep λi hi=>ho i (λe=>h.off (e ▸ hi))⟩⟩,λi g=>by rw [hz];exact h.lt i g,h.off,h.low,h.lp,h.bel.setCell (p:=⟨p,0,none⟩) h.lp _⟩,⟨rfl,rfl,rfl,by rw [hz];exact Nat.le_refl _,λi _ hn=>ho i (λe=>hn (.inr e))⟩⟩
def Lle (w0:World) (p:Nat) (G:Nat->Prop) (T:ByteArray) (S:Option Kt) (v:ByteArray) (l:List ByteArray) (w:World) (e:Ending) (w':World):Prop:=
 ∃out T' S',e = .returned (.string out)/\Dln T S v l out T' S'/\Bnc w0 w' p (Gnx G w w') T' S'/\Tch w w' (λi=>G i\/i=p)
theorem Lle.quiet {w0 w w' p G T S v l out} (h:Bnc w0 w p G T S) (hb:Below w.heap.size w w') (hd:Dln T S v l out T S):Lle w0 p G T S v l w (.returned (.string out)) w':=
 ⟨out,T,S,rfl,hd,h.gnx hb,Tch.of_below hb⟩
theorem Tch.wide {w w' G} {H:Nat->Prop} (h:Tch w w' G) (hG:∀i,G i->H i):Tch w w' H:=⟨h.os,h.tape,h.output,h.size,λi hi hn=>h.block i hi (λg=>hn (hG i g))⟩
theorem Lle.key {w0} {w:World} {w1 w' p b G T} {s:Kt} {v} {l:List ByteArray} {N e} (hb:Below w.heap.size w w1) (h:Bnc w0 w p G T (some s)) (hk:Kyl w0 p b G T s v N w1 e w') (hd:∀out s',Dky v N s out s'->Dln T (some s) v l out T (some s')):Lle w0 p G T (some s) v l w e w':=by
 obtain ⟨out,s',rfl,h1,h2,h3⟩:=hk;have hz:=hb.size;have ht:Tch w w' G:=(Tch.of_below hb).same h3;refine ⟨out,T,some s',rfl,hd out s' h1,⟨⟨_,h2.row,.inr ⟨s',b,rfl,rfl,h2.sto.mono (λi g=>g.elim .inl (λg=>.inr ⟨by omega,g.2⟩)) (Gnx.lt h.lt ht.size)⟩⟩,Gnx.lt h.lt ht.size,λe=>e.elim h.off (λe=>by have:=h.plt;omega),Gnx.ge h.low h.bel.size,h.lp,ht.below h.bel h.low h.bel.size⟩,ht.wide λi g=>.inl g⟩
theorem nba_bd {l} (h:okn l l.length):∀x ∈ nba l,0<=x/\x<=9999999999:=λx hx=>by
 unfold nba nbl at hx
 obtain ⟨i,hi,rfl⟩:=List.mem_map.1 hx
 have ho:=h i (List.mem_range.1 hi)
 have h1:=dgn_bd ho.2.1
 have h2:=ten_le ho.1.2
 omega
theorem syn_vDeal (l:List ByteArray):Syn vDeal l↔okn l l.length/\2<=l.length:=by
 unfold Syn;rw [if_neg (by decide),if_pos (by decide)]
theorem syn_vMult (l:List ByteArray):Syn vMult l↔okn l l.length/\2<=l.length:=by
 unfold Syn;rw [if_neg (by decide),if_pos (by decide)]
theorem syn_vOpen (l:List ByteArray):Syn vOpen l↔okn l l.length/\l.length%2=1:=by
 unfold Syn;(iterate 3 rewrite [if_neg (by decide)]);rw [if_pos (by decide)]
theorem syn_vRefr (l:List ByteArray):Syn vRefr l↔okn l l.length/\1<=l.length:=by
 unfold Syn;(iterate 4 rewrite [if_neg (by decide)]);rw [if_pos (by decide)]
theorem syn_vClear (l:List ByteArray):Syn vClear l↔okn l l.length/\l.length=0:=by
 unfold Syn;(iterate 5 rewrite [if_neg (by decide)]);rw [if_pos (by decide)]
theorem syn_vShow (l:List ByteArray):Syn vShow l↔okn l l.length/\l.length=0:=by
 unfold Syn;(iterate 5 rewrite [if_neg (by decide)]);rw [if_pos (by decide)]
theorem syn_vKeys (l:List ByteArray):Syn vKeys l↔okn l l.length/\l.length=2:=by
 unfold Syn;(iterate 6 rewrite [if_neg (by decide)]);rw [if_pos (by decide)]
theorem syn_vTwk (l:List ByteArray):Syn vTwk l↔okn l l.length/\l.length=2:=by
 unfold Syn;(iterate 6 rewrite [if_neg (by decide)]);rw [if_pos (by decide)]
theorem syn_vComb (l:List ByteArray):Syn vComb l↔okn l l.length/\l.length=4:=by
 unfold Syn;(iterate 7 rewrite [if_neg (by decide)]);rw [if_pos (by decide)]
theorem syn_vKey (l:List ByteArray):Syn vKey l↔okn l l.length/\l.length=1:=by
 unfold Syn;(iterate 8 rewrite [if_neg (by decide)]);rw [if_pos (by decide)]
theorem syn_vDrop (l:List ByteArray):Syn vDrop l↔okn l l.length/\l.length=1:=by
 unfold Syn;(iterate 8 rewrite [if_neg (by decide)]);rw [if_pos (by decide)]
theorem syn_vRun (l:List ByteArray):Syn vRun l↔okn l l.length/\True:=by
 unfold Syn;(iterate 9 rewrite [if_neg (by decide)]);rw [if_pos (by decide)];simp
theorem syn_vGen (l:List ByteArray):Syn vGen l↔okn l l.length/\True:=by
 unfold Syn;(iterate 9 rewrite [if_neg (by decide)]);rw [if_pos (by decide)];simp
theorem Lle.text {w0 w w1 p G T U S v l out} (h:Bnc w0 w p G T S) (hb:Below w.heap.size w w1) (hd:Dln T S v l out U S):Lle w0 p G T S v l w (.returned (.string out)) (w1.setCell ⟨p,0,none⟩ (.string U)):=by
 obtain ⟨h1,_⟩:=(h.gnx hb).put U;obtain ⟨_,h2⟩:=(h.same hb).put U;have e:Gnx G w (w1.setCell ⟨p,0,none⟩ (.string U))=Gnx G w w1:=by
  funext i;unfold Gnx;simp
 exact ⟨out,U,S,rfl,hd,by rw [e];exact h1,((Tch.of_below hb).wide (λi g=>g)).same h2⟩
theorem Lle.keys {w0 w w1 w2} {w3:World} {p b} {n t:Nat} {G H T S v l out} (h:Bnc w0 w p G T S) (hb:Below w.heap.size w w1) (hb2:Below w1.heap.size w1 w2) (hs:Stx 124 w2 b H (k0 n t)) (hH:∀i,H i->w1.heap.size<=i) (e3:w3=w2.setCell ⟨p,1,none⟩ (.pointer (some ⟨b,0,none⟩))) (hd:Dln T S v l out T (some (k0 n t))):Lle w0 p G T S v l w (.returned (.string out)) w3:=by
 subst e3;have aa:=btr hb hb2;have hp:=h.plt;have ad:=(h.same aa).plt;have ae:=hb.size;have af:=hb2.size;obtain ⟨q,h1,_⟩:=(h.same aa).row;have ab:=heap_setCell_same w2 p 1 _ _ (.pointer (some ⟨b,0,none⟩)) h1;have ho:∀i,i≠p->(w2.setCell ⟨p,1,none⟩ (.pointer (some ⟨b,0,none⟩))).heap[i]? = w2.heap[i]?:=λi hi=>heap_setCell_other w2 ⟨p,1,none⟩ i _ hi;have hz:(w2.setCell ⟨p,1,none⟩ (.pointer (some ⟨b,0,none⟩))).heap.size=w2.heap.size:=by simp
 have ht:Tch w (w2.setCell ⟨p,1,none⟩ (.pointer (some ⟨b,0,none⟩))) (λi=>G i\/i=p):=⟨aa.os,aa.tape,aa.output,by rw [hz];exact aa.size,λi hi hn=>(ho i (λe=>hn (.inr e))).trans (aa.block i hi)⟩;refine ⟨out,T,some (k0 n t),rfl,hd,⟨⟨some ⟨b,0,none⟩,by rw [ab];rfl,.inr ⟨k0 n t,b,rfl,rfl,(hs.keep λi hi=>ho i (λe=>by have:=hH i hi;omega)).mono (λi hi=>.inr ⟨by have:=hH i hi;omega,by rw [hz];exact hs.2 i hi⟩) (λi g=>?_)⟩⟩,λi g=>?_,λe=>e.elim h.off (λe=>by omega),Gnx.ge h.low h.bel.size,h.lp,?_⟩,ht⟩
 ·exact Gnx.lt h.lt (by rw [hz];exact aa.size) i g
 ·exact Gnx.lt h.lt (by rw [hz];exact aa.size) i g
 ·exact (btr h.bel aa).setCell (p:=⟨p,1,none⟩) h.lp _
theorem nil_rd0 (w:World):Rd w none 0 0 []:=⟨rfl,Nat.le_refl _,Nat.zero_le _,by simp,λ_=>rfl,by simp⟩
theorem jnw_size {l:List ByteArray} {n:Nat} (h:∀i,i<n->(tx l i).size<=70000):∀k,k<=n->(jnw l k).size<=70001*k
 | 0,_=>Nat.le_refl 0
 | k+1,hk=>by
  have ih:=jnw_size h k (by omega)
  have hx:=h k (by omega)
  rw [jnw,ByteArray.size_append]
  split
  ·have:mt.size=0:=rfl
   omega
  ·rw [ByteArray.size_append]
   have:spB.size=1:=rfl
   omega
theorem cir_dac {v} {l:List ByteArray} {N d T out} {S:Option Kt} (h:Cir v N d T out) (hd:∀G O out,Cic v N d G O out->Dci v l G O out):T=T/\S=S/\∃G O at_ r,Par T G O at_ r/\((r≠0/\out=erB r++(spB++itb (at_:Int)))\/(r=0/\Dci v l G O out)):=by
 obtain ⟨G,O,n,r,h1,h2⟩:=h;exact ⟨rfl,rfl,G,O,n,r,h1,or_to h2 λ⟨e,k⟩=>⟨e,hd G O out k⟩⟩
theorem dci_show (l:List ByteArray) (N:List Int) (d:Nat):∀G O out,Cic vShow N d G O out->Dci vShow l G O out:=λG O out h=>by
 unfold Cic at h
 unfold Dci
 rw [if_pos rfl] at h ⊢
 exact h
theorem dci_run (l:List ByteArray) (d:Nat):∀G O out,Cic vRun (nba l) d G O out->Dci vRun l G O out:=λG O out h=>by
 unfold Cic at h
 unfold Dci
 rw [if_neg (by decide),if_pos rfl] at h ⊢
 rw [nba_len] at h
 exact h
theorem dci_work (l) {j} (hj:slash l j):∀G O out,Cic vWork (nbl l j) (l.length-(j+1)) G O out->Dci vWork l G O out:=λG O out h=>by
 unfold Cic at h
 unfold Dci
 rw [if_neg (by decide),if_neg (by decide)] at h ⊢
 obtain ⟨r,h1,h2⟩:=h
 have e:(nbl l j).length=j:=by simp [nbl]
 rw [e] at h1
 exact ⟨j,r,hj,h1,h2⟩
theorem rLineDeal (w0 w p G T S a n c l) (h:Bnc w0 w p G T S) (r:RdT w a n c l) (hn:n<=70000) (hTz:T.size<=2048) (hlast:∀s,S=some s->s.last<=1000000) (hT:Tabs w0) (hV:Vb w0):
  Calls Tryz.prog 14 #[.pointer (some ⟨p,0,none⟩),.string vDeal,.slice a n c] w (Lle w0 p G T S vDeal l w):=by
 obtain ⟨v,HV⟩:=nmd vDeal;have aP:(v.toList == [100,101,97,108])=true:=by rw [<- HV.out];decide +kernel
 have aQ:=qf4 HV (by decide +kernel);have aR:=qf6 HV (by decide +kernel);have aS:=qf8 HV (by decide +kernel);have aT:=qf1 HV (by decide +kernel);have aN:=qf9 HV (by decide +kernel);have aU:=qf7 HV (by decide +kernel);have aV:=qf10 HV (by decide +kernel);have aZ:=qf2 HV (by decide +kernel);have aW:=qf3 HV (by decide +kernel);have a0:=qf5 HV (by decide +kernel);have aX:=qf11 HV (by decide +kernel);have a4:=qf12 HV (by decide +kernel);have a5:=qf0 HV (by decide +kernel);have aY:=qf13 HV (by decide +kernel);rw [HV.out];have af:=r.len;have bk:=r.cap;have aO:=r.max;unfold maxLen at aO;have bC:=h.plt;have H:=hid h;have HT:Hid (∀w',Below w.heap.size w w'->Tabs w'/\Vb w'):=λw' hb=>⟨hT.below (btr h.bel hb),hV.below (btr h.bel hb)⟩;clear h;go_enter Tryz.func14,Tryz.ntmps14;go_wp2_with fail;refine (sIndexT _ _ _ l ⟨#[47]⟩ _ r).mono ?_;rintro e w1 ⟨sl,rfl,aC,hw⟩;have hw:=hw.symm;subst hw;have bD:=aC.bd;clear aC;go_wp2_with fail;refine (rNumbers _ _ _ l _ r (by omega)).mono ?_;rintro e w1 ⟨⟨aD,rfl⟩ | ⟨aE,v1,rfl,av⟩,aa⟩
 ·have a6:=hid aD;clear aD;have HD:Hid (Dln T S v l (erB 3) T S):=by rw [<- HV.out];exact .inl ⟨λhs=>a6.out (by rw [<- af];exact ((syn_vDeal l).1 hs).1),rfl,rfl,rfl⟩
  obtain ⟨al,_⟩:=HT.out _ aa;go_wp2_with fail;refine (rWrong 3 _ (by omega) (by omega) al).mono ?_;rintro e wz ⟨rfl,am⟩;have ag:=btr aa am;obtain ⟨X,HX⟩:=nmd (erB 3);rw [HX.out] at HD ⊢;clear am al;go_wp2;go_ret;exact Lle.quiet H.out ag HD.out
 ·have aF:Hid (okn l l.length):=by unfold Hid;rw [af];exact aE
  have an:Hid (∀x ∈ nba l,0<=x/\x<=9999999999):=nba_bd aF.out;obtain ⟨N,ay⟩:=nmd (nba l);have e0:nbl l n=N:=by rw [<- ay.out,<- af];rfl
  rw [e0] at av;rw [ay.out] at an;obtain ⟨a1,c1,rfl,ai⟩:=RdI.own av (λx hx=>by have:=an.out x hx;omega);have bE:Hid (∀x,a1=some x->w.heap.size<=x.block):=λx hx=>by subst hx;exact (av.lt x.block rfl).1
  have a7:=ai.len;have a8:=ai.cap;have a9:=ai.max;unfold maxLen at a9;clear aE av e0;by_cases hc:2<=n
  ·have ba:Hid (Syn vDeal l):=(syn_vDeal l).2 ⟨aF.out,by rw [af];exact hc⟩;obtain ⟨ab,ad,x0,bb,ar,aG,bl,bm,aH⟩:=ai.one (show 0<n by omega);subst bb;have bo:0<=x0/\x0<=9999999999:=by
    rw [<- aG.out];exact an.out _ (gmem (show 0<N.length by omega))
   have bF:IntKind.u64.wrap x0=x0:=by rw [IntKind.wrap_u64];omega
   have bp:(0:Int)<(n:Int):=by omega
   have bq:0<n:=by omega
   obtain ⟨bG,bH,x1,aI,br,aJ,bu,bv,bc⟩:=ai.one (show 1<n by omega);simp only [Option.some.injEq,Addr.mk.injEq,and_true] at aI;obtain ⟨rfl,rfl⟩:=aI;have bw:0<=x1/\x1<=9999999999:=by
    rw [<- aJ.out];exact an.out _ (gmem (show 1<N.length by omega))
   have bI:IntKind.u64.wrap x1=x1:=by rw [IntKind.wrap_u64];omega
   have bx:(1:Int)<(n:Int):=by omega
   have bz:1<n:=by omega
   rw [Nat.add_zero] at aH;have be:decide ((2:Int)<=(n:Int))=true:=decide_eq_true (by omega);have bA:Below w.heap.size w w1.drew:=aa.drew;have aj:Hid (∀w',Below w1.heap.size w1 w'->w'.cell? ⟨ab,ad,none⟩=some (.int .i64 x0)/\w'.cell? ⟨ab,ad+1,none⟩=some (.int .i64 x1)/\ab<w'.heap.size/\Tabs w'/\RdI w' (some ⟨ab,ad,none⟩) n c1 N):=λw' hb=>⟨by rw [hb.cell (p:=⟨ab,ad,none⟩) ar];exact aH,by rw [hb.cell (p:=⟨ab,ad+1,none⟩) ar];exact bc,Nat.lt_of_lt_of_le ar hb.size,(HT.out w' (btr aa hb)).1,ai.below hb⟩;obtain ⟨z0,z1,z2,z3,z4⟩:=aj.out w1.drew (Below.refl _ _).drew;obtain ⟨N2,az⟩:=nmd (N.drop 2);have aw:Hid (∀x ∈ N2,0<=x/\x<=9999999999):=λx hx=>an.out x (List.mem_of_mem_drop (by rw [az.out];exact hx));have ak:Hid (∀out,out=(if n-2<=4/\((n-2:Nat):Int)<x0/\x0<=9 then sad (dl (x1 :: N2) x0.toNat) 0 else erB 1)->Dln T S v l out T S):=λout hd=>by
    rw [<- HV.out];refine .inr ⟨ba.out,?_⟩;unfold Dac dla;rw [if_neg (by decide),if_pos (by decide),ay.out,aG.out,aJ.out,az.out,a7];exact ⟨rfl,rfl,hd⟩
   obtain ⟨sa,aK⟩:=nmd (subA (some ⟨ab,ad,none⟩) c1 2);have hsl:∀W,(Instr.sliceAt 63 (.slice (some ⟨ab,ad,none⟩) n c1) (some (.int .i64 2)) none none).run Tryz.prog W = .ok (.slice sa (n-2) (c1-2)) W:=λW=>by
    rw [<- aK.out];exact run_subl Tryz.underlying63 infoIn1 _ n c1 2 rfl (by omega) W
   have aA:Hid (∀w',RdI w' (some ⟨ab,ad,none⟩) n c1 N->RdI w' sa (n-2) (c1-2) N2):=λw' hr=>by rw [<- aK.out,<- az.out];exact hr.sub (by omega)
   have bJ:(2:Int)<=(n:Int):=by omega
   obtain ⟨m,HM⟩:=nmd (n-2);have bK:m<=70000:=by rw [<- HM.out];omega
   rw [HM.out] at hsl aA ak;clear a8;by_cases hd:m<=4/\(m:Int)<x0/\x0<=9
   ·rw [if_pos hd] at ak;obtain ⟨n',rfl⟩:∃n':Nat,x0=n':=⟨x0.toNat,by omega⟩;rw [Int.toNat_natCast] at ak;have bf:=hd.1;have bg:m<n':=by have:=hd.2.1;omega
    have bh:n'<=9:=by have:=hd.2.2;omega
    clear hd;go_wp2;go_region_held3 (λw'=>w'.cell? ⟨ab,ad,none⟩=some (.int .i64 (n':Int))/\w'.cell? ⟨ab,ad+1,none⟩=some (.int .i64 x1)) (go_keep) (first | (go_at_call 32;refine (rWide _ _ _ N2 _ (aA.out _ z4) (by omega) aw.out).mono ?_;rintro e w2 ⟨v2,rfl,ao,ap⟩;obtain ⟨a2,c2,rfl,ax,_⟩:=Rd.own ao (λx hx=>by have:=aw.out x hx;omega);have ae:Below w1.heap.size w1 w2:=((Below.refl _ _).drew).trans (ap.mono (Nat.le_refl _));obtain ⟨f0,f1,f2,f3,f4⟩:=aj.out w2 ae) | (go_at_call 31;refine (rDealOK x1 _ _ _ N2 n' _ ax (by omega) (by omega) bf bg bh).mono ?_;rintro e w3 ⟨a3,c3,rfl,aL,aM⟩;have au:=btr ae aM;obtain ⟨g0,g1,g2,g3,g4⟩:=aj.out w3 au) | (go_at_call 30;refine (rSaid _ _ _ _ 0 _ aL (by omega) (by omega) (by omega) g3).mono ?_;rintro e w4 ⟨rfl,aq⟩;have ah:=btr au aq;obtain ⟨i0,i1,i2,i3,i4⟩:=aj.out w4 ah))
    all_goals
     have ag:=btr aa ah;have HL:Hid (Lle w0 p G T S v l w (.returned (.string (sad (dl (x1 :: N2) n') 0))) w4):=Lle.quiet H.out ag (ak.out _ rfl);obtain ⟨X,HX⟩:=nmd (sad (dl (x1 :: N2) n') 0);rw [HX.out] at HL ⊢;clear ao ax aL ap aM aq f0 f1 f2 f3 f4 g0 g1 g2 g3 g4 i0 i1 i2 i3 i4;go_wp2;go_ret;exact HL.out
   ·rw [if_neg hd] at ak;have bi:4<m\/x0<=(m:Int)\/9<x0:=by omega
    clear hd;go_wp2;go_region_held3 (λw'=>w'.cell? ⟨ab,ad,none⟩=some (.int .i64 x0)/\w'.cell? ⟨ab,ad+1,none⟩=some (.int .i64 x1)) (go_keep) (first | (go_at_call 32;refine (rWide _ _ _ N2 _ (aA.out _ z4) (by omega) aw.out).mono ?_;rintro e w2 ⟨v2,rfl,ao,ap⟩;obtain ⟨a2,c2,rfl,ax,_⟩:=Rd.own ao (λx hx=>by have:=aw.out x hx;omega);have ae:Below w1.heap.size w1 w2:=((Below.refl _ _).drew).trans (ap.mono (Nat.le_refl _));obtain ⟨f0,f1,f2,f3,f4⟩:=aj.out w2 ae) | (go_at_call 31;refine (rDealE x1 _ _ _ x0 _ (by omega) bi).mono ?_;rintro e w3 ⟨rfl,aB⟩;have aB:=aB.symm;subst aB) | (go_at_call 30;refine (rSaid _ _ _ [] 1 _ (nil_rd0 _) (by omega) (by omega) (by omega) f3).mono ?_;rintro e w4 ⟨rfl,aq⟩;have ah:=btr ae aq;obtain ⟨i0,i1,i2,i3,i4⟩:=aj.out w4 ah))
    all_goals
     have ag:=btr aa ah;have HL:Hid (Lle w0 p G T S v l w (.returned (.string (sad [] 1))) w4):=Lle.quiet H.out ag (ak.out _ rfl);obtain ⟨X,HX⟩:=nmd (sad [] 1);rw [HX.out] at HL ⊢;clear ao ax ap aq f0 f1 f2 f3 f4 i0 i1 i2 i3 i4;go_wp2;go_ret;exact HL.out
  ·have bj:Hid (¬ Syn vDeal l):=λhs=>hc (by rw [<- af];exact ((syn_vDeal l).1 hs).2);have bL:¬ ((2:Int)<=(n:Int)):=by omega
   have bB:¬ (2<=n):=hc;have be:decide ((2:Int)<=(n:Int))=false:=decide_eq_false (by omega);have HD:Hid (Dln T S v l (erB 3) T S):=by rw [<- HV.out];exact .inl ⟨bj.out,rfl,rfl,rfl⟩
   obtain ⟨al,_⟩:=HT.out _ aa;go_wp2_with fail;refine (rWrong 3 _ (by omega) (by omega) al).mono ?_;rintro e wz ⟨rfl,am⟩;have ag:=btr aa am;obtain ⟨X,HX⟩:=nmd (erB 3);rw [HX.out] at HD ⊢;clear am al;go_wp2;go_ret;exact Lle.quiet H.out ag HD.out
theorem rLineMult (w0 w p G T S a n c l) (h:Bnc w0 w p G T S) (r:RdT w a n c l) (hn:n<=70000) (hTz:T.size<=2048) (hlast:∀s,S=some s->s.last<=1000000) (hT:Tabs w0) (hV:Vb w0):
  Calls Tryz.prog 14 #[.pointer (some ⟨p,0,none⟩),.string vMult,.slice a n c] w (Lle w0 p G T S vMult l w):=by
 obtain ⟨v,HV⟩:=nmd vMult;have ay:=qf14 HV (by decide +kernel);have az:(v.toList == [109,117,108,116,105,112,108,121])=true:=by rw [<- HV.out];decide +kernel
 have aA:=qf6 HV (by decide +kernel);have aB:=qf8 HV (by decide +kernel);have aC:=qf1 HV (by decide +kernel);have av:=qf9 HV (by decide +kernel);have aD:=qf7 HV (by decide +kernel);have aE:=qf10 HV (by decide +kernel);have aI:=qf2 HV (by decide +kernel);have aF:=qf3 HV (by decide +kernel);have aJ:=qf5 HV (by decide +kernel);have aG:=qf11 HV (by decide +kernel);have aK:=qf12 HV (by decide +kernel);have aL:=qf0 HV (by decide +kernel);have aH:=qf13 HV (by decide +kernel);rw [HV.out];have ae:=r.len;have aU:=r.cap;have aw:=r.max;unfold maxLen at aw;have aW:=h.plt;have H:=hid h;have HT:Hid (∀w',Below w.heap.size w w'->Tabs w'/\Vb w'):=λw' hb=>⟨hT.below (btr h.bel hb),hV.below (btr h.bel hb)⟩;clear h;go_enter Tryz.func14,Tryz.ntmps14;go_wp2_with fail;refine (sIndexT _ _ _ l ⟨#[47]⟩ _ r).mono ?_;rintro e w1 ⟨sl,rfl,al,hw⟩;have hw:=hw.symm;subst hw;have aX:=al.bd;clear al;go_wp2_with fail;refine (rNumbers _ _ _ l _ r (by omega)).mono ?_;rintro e w1 ⟨⟨am,rfl⟩ | ⟨an,v1,rfl,ah⟩,aa⟩
 ·have aM:=hid am;clear am;have HD:Hid (Dln T S v l (erB 3) T S):=by rw [<- HV.out];exact .inl ⟨λhs=>aM.out (by rw [<- ae];exact ((syn_vMult l).1 hs).1),rfl,rfl,rfl⟩
  obtain ⟨ab,_⟩:=HT.out _ aa;go_wp2_with fail;refine (rWrong 3 _ (by omega) (by omega) ab).mono ?_;rintro e wz ⟨rfl,ad⟩;have af:=btr aa ad;obtain ⟨X,HX⟩:=nmd (erB 3);rw [HX.out] at HD ⊢;clear ad ab;go_wp2;go_ret;exact Lle.quiet H.out af HD.out
 ·have ao:Hid (okn l l.length):=by unfold Hid;rw [ae];exact an
  have aj:Hid (∀x ∈ nba l,0<=x/\x<=9999999999):=nba_bd ao.out;obtain ⟨N,ak⟩:=nmd (nba l);have e0:nbl l n=N:=by rw [<- ak.out,<- ae];rfl
  rw [e0] at ah;rw [ak.out] at aj;obtain ⟨a1,c1,rfl,ai⟩:=RdI.own ah (λx hx=>by have:=aj.out x hx;omega);have aN:Hid (∀x,a1=some x->w.heap.size<=x.block):=λx hx=>by subst hx;exact (ah.lt x.block rfl).1
  have aY:=ai.len;have aZ:=ai.cap;have aO:=ai.max;unfold maxLen at aO;clear an ah e0;by_cases hc:2<=n
  ·have ap:Hid (Syn vMult l):=(syn_vMult l).2 ⟨ao.out,by rw [ae];exact hc⟩;have aP:decide ((2:Int)<=(n:Int))=true:=decide_eq_true (by omega);obtain ⟨q,ag,⟨hS,rfl⟩ | ⟨s,b,hS,rfl,aq⟩⟩:=(H.out.same aa).row
   ·subst hS;have ar:w1.cell? ⟨p,1,none⟩=some (.pointer none):=by rw [cell_of_row w1 p _ _ _ (0,0) ag];rfl
    have ax:=(H.out.same aa).plt;clear ag;have HD:Hid (Dln T none v l (erB 4) T none):=by rw [<- HV.out];exact .inr ⟨ap.out,by unfold Dac;(iterate 5 rewrite [if_neg (by decide)]);rw [if_neg (by decide)];exact ⟨rfl,.inl ⟨rfl,rfl,rfl⟩⟩⟩
    obtain ⟨ab,_⟩:=HT.out _ aa;go_wp2_with fail;refine (rWrong 4 _ (by omega) (by omega) ab).mono ?_;rintro e wz ⟨rfl,ad⟩;have af:=btr aa ad;obtain ⟨X,HX⟩:=nmd (erB 4);rw [HX.out] at HD ⊢;clear ad ab;go_wp2;go_ret;exact Lle.quiet H.out af HD.out
   ·subst hS;have ar:w1.cell? ⟨p,1,none⟩=some (.pointer (some ⟨b,0,none⟩)):=by rw [cell_of_row w1 p _ _ _ (0,0) ag];rfl
    have ax:=(H.out.same aa).plt;have au:Hid (Bs w0 w1 p b G T s):=⟨ag,aq,H.out.off,H.out.low,H.out.lp,(H.out.same aa).bel⟩;have aQ:Hid (∀x,a1=some x->¬ G x.block):=λx hx g=>by have h1:=aN.out x hx;have h2:=H.out.lt _ g;omega
    have aR:=hlast s rfl;have aS:Hid (∀out s',Dky vMult N s out s'->Dln T (some s) v l out T (some s')):=λout s' hd=>by rw [<- HV.out];exact .inr ⟨ap.out,by unfold Dac;(iterate 5 rewrite [if_neg (by decide)]);rw [if_neg (by decide)];exact ⟨rfl,.inr ⟨s,s',rfl,rfl,by rw [ak.out];exact hd⟩⟩⟩
    clear ag aq hlast;go_wp2_with fail;rw [<- HV.out];refine (rKeyMult w0 _ p b G T s _ _ _ N au.out ai aj.out (by omega) (by omega) aQ.out hT aR).mono ?_;intro e w2 hk;have HL:Hid (Lle w0 p G T (some s) v l w e w2):=Lle.key aa H.out (by rw [HV.out] at hk;exact hk) (λout s' hd=>aS.out out s' (by rw [HV.out];exact hd));obtain ⟨out,s',rfl,_⟩:=hk;clear ar au;go_wp2;go_ret;exact HL.out
  ·have aT:Hid (¬ Syn vMult l):=λhs=>hc (by rw [<- ae];exact ((syn_vMult l).1 hs).2);have a0:¬ ((2:Int)<=(n:Int)):=by omega
   have aV:¬ (2<=n):=hc;have aP:decide ((2:Int)<=(n:Int))=false:=decide_eq_false (by omega);have HD:Hid (Dln T S v l (erB 3) T S):=by rw [<- HV.out];exact .inl ⟨aT.out,rfl,rfl,rfl⟩
   obtain ⟨ab,_⟩:=HT.out _ aa;go_wp2_with fail;refine (rWrong 3 _ (by omega) (by omega) ab).mono ?_;rintro e wz ⟨rfl,ad⟩;have af:=btr aa ad;obtain ⟨X,HX⟩:=nmd (erB 3);rw [HX.out] at HD ⊢;clear ad ab;go_wp2;go_ret;exact Lle.quiet H.out af HD.out
def Ixf (L:List ByteArray) (n:Nat) (x:ByteArray) (r:Int):Prop:=(∃k:Nat,k<n/\tx L k=x/\r=(k:Int)/\∀j,j<k->tx L j≠x)\/((∀j,j<n->tx L j≠x)/\r = -1)
theorem sIndexF (a n c L x w) (h:RdT w a n c L):
  Calls Tryz.prog 28 #[.slice a n c,.string x] w λe w'=>∃r,e = .returned (.int .i64 r)/\Ixf L n x r/\w'=w:=by
 have ae:=h.cap;have aa:=h.max;unfold maxLen at aa;go_enter Tryz.func28,Tryz.ntmps28;go_wp2;go_loop [8] (λq=>∃i:Nat,i<=n/\q = .int .i64 i/\Hid (∀j,j<i->tx L j≠x)) (λq=>n-(intOf q).toNat)
 case atStart=>exact ⟨0,Nat.zero_le _,rfl,λj hj=>by omega⟩
 case round=>
  obtain ⟨i,hi,rfl,HN⟩:=hrel;by_cases hlt:i<n
  ·obtain ⟨b,o,y,rfl,hb,HY,af,hc⟩:=h.one hlt;by_cases e:x=y
   ·have HE:Hid (Ixf L n x i):=.inl ⟨i,hlt,by rw [HY.out,e],rfl,HN.out⟩;have he:=tl_yes e;clear e HN;go_wp2;go_ret;exact ⟨_,rfl,HE.out,rfl⟩
   ·have he:=tl_no e;have ab:Hid (∀j,j<i+1->tx L j≠x):=λj hj=>by
     by_cases ej:j=i
     ·rw [ej,HY.out];exact λe'=>e e'.symm
     ·exact HN.out j (by omega)
    clear e HN;go_wp2;go_round
    case rel=>exact ⟨i+1,by omega,by go_num,ab⟩
    case measure=>simp [intOf];omega
  ·have ad:i=n:=by omega
   subst ad;have HE:Hid (Ixf L i x (-1)):=.inr ⟨HN.out,rfl⟩;clear HN;go_wp2;go_ret;exact ⟨_,rfl,HE.out,rfl⟩
theorem RdT.sub {w a n c L} (h:RdT w a n c L) {lo:Nat} (hk:lo<=n):RdT w (subA a c lo) (n-lo) (c-lo) (L.drop lo):=by
 have hl:=h.len;have hc:=h.cap;have hm:=h.max;have ht:∀i,tx (L.drop lo) i=tx L (lo+i):=λi=>by unfold tx;simp
 refine ⟨by simp;omega,by omega,by omega,λe=>?_,λi hi=>by rw [ht];exact h.bd _ (by omega),λx hx i hi=>?_⟩
 ·unfold subA at e;split at e
  ·omega
  ·cases a with
   | none=>have:=h.nil rfl;omega
   | some y=>simp at e
 ·obtain ⟨b,o,y,rfl,_,HY,_,aa⟩:=h.one (k:=lo+i) (by omega);unfold subA at hx;rw [if_neg (by omega),Option.map_some] at hx;obtain rfl:=Option.some.inj hx;rw [Addr.add_lit,Addr.add_lit,Nat.add_assoc,aa,ht,HY.out]
theorem syn_vWork (l:List ByteArray):Syn vWork l↔∃j,slash l j/\okn l j/\okn (l.drop (j+1)) (l.length-(j+1))/\2<=j:=by
 unfold Syn;rw [if_neg (by decide),if_neg (by decide),if_pos rfl]
theorem okn_take {l:List ByteArray} {j:Nat}:okn (l.take j) j↔okn l j:=by
 have e:∀i,i<j->tx (l.take j) i=tx l i:=λi hi=>by unfold tx;simp [hi]
 exact ⟨λh i hi=>by rw [<- e i hi];exact h i hi,λh i hi=>by rw [e i hi];exact h i hi⟩
theorem nbl_take (l:List ByteArray) (j:Nat):nbl (l.take j) j=nbl l j:=by
 unfold nbl;refine List.map_congr_left λi hi=>?_;have e:tx (l.take j) i=tx l i:=by unfold tx;simp [List.mem_range.1 hi]
 rw [e]
theorem nbl_bd2 {l j} (h:okn l j):∀x ∈ nbl l j,0<=x/\x<=9999999999:=λx hx=>by
 unfold nbl at hx
 obtain ⟨i,hi,rfl⟩:=List.mem_map.1 hx
 have ho:=h i (List.mem_range.1 hi)
 have h1:=dgn_bd ho.2.1
 have h2:=ten_le ho.1.2
 omega
theorem rLineWork (w0 w p G T S a n c l) (h:Bnc w0 w p G T S) (r:RdT w a n c l) (hn:n<=70000) (hTz:T.size<=2048) (hlast:∀s,S=some s->s.last<=1000000) (hT:Tabs w0) (hV:Vb w0):
  Calls Tryz.prog 14 #[.pointer (some ⟨p,0,none⟩),.string vWork,.slice a n c] w (Lle w0 p G T S vWork l w):=by
 obtain ⟨v,HV⟩:=nmd vWork;have aN:=qf14 HV (by decide +kernel);have aO:=qf4 HV (by decide +kernel);have aP:(v.toList == [119,111,114,107])=true:=by rw [<- HV.out];decide +kernel
 have aQ:=qf8 HV (by decide +kernel);have aR:=qf1 HV (by decide +kernel);have aJ:=qf9 HV (by decide +kernel);have aS:=qf7 HV (by decide +kernel);have aT:=qf10 HV (by decide +kernel);have aX:=qf2 HV (by decide +kernel);have aU:=qf3 HV (by decide +kernel);have aY:=qf5 HV (by decide +kernel);have aV:=qf11 HV (by decide +kernel);have aZ:=qf12 HV (by decide +kernel);have a0:=qf0 HV (by decide +kernel);have aW:=qf13 HV (by decide +kernel);rw [HV.out];have am:=r.len;have bb:=r.cap;have aK:=r.max;unfold maxLen at aK;have be:=h.plt;have H:=hid h;have HT:Hid (∀w',Below w.heap.size w w'->Tabs w'/\Vb w'):=λw' hb=>⟨hT.below (btr h.bel hb),hV.below (btr h.bel hb)⟩;clear h;go_enter Tryz.func14,Tryz.ntmps14;go_wp2_with fail;refine (sIndexF _ _ _ l ⟨#[47]⟩ _ r).mono ?_;rintro e w1 ⟨sl,rfl,a3,hw⟩;have hw:=hw.symm;subst hw;rcases a3 with ⟨j,hj,ax,rfl,ay⟩ | ⟨az,rfl⟩
 ·have an:Hid (slash l j):=⟨by omega,ax,ay⟩;have al:Hid (Syn vWork l↔okn l j/\okn (l.drop (j+1)) (n-(j+1))/\2<=j):=by
   unfold Hid;rw [syn_vWork,am];exact ⟨λ⟨i,h1,h2⟩=>by obtain rfl:=h1.one an.out;exact h2,λh2=>⟨j,an.out,h2⟩⟩
  have ai:Hid (¬ Syn vWork l->Dln T S v l (erB 3) T S):=λh=>by rw [<- HV.out];exact .inl ⟨h,rfl,rfl,rfl⟩
  have bf:decide ((0:Int)<=(j:Int))=true:=decide_eq_true (by omega);have bg:(0:Int)<=(j:Int):=by omega
  have bh:(j:Int)+1<=(n:Int):=by omega
  obtain ⟨sa,aA⟩:=nmd (subA a c (j+1));have hsl:∀W,(Instr.sliceAt 24 (.slice a n c) (some (.int .i64 ((j:Int)+1))) none none).run Tryz.prog W = .ok (.slice sa (n-(j+1)) (c-(j+1))) W:=λW=>by
   rw [<- aA.out];exact run_subl Tryz.underlying24 infoStr1 _ n c (j+1) (by push_cast;rfl) (by omega) W
  have rD:=r.sub (lo:=j+1) (by omega);rw [aA.out] at rD;obtain ⟨d,ao⟩:=nmd (n-(j+1));have bi:d<=70000:=by rw [<- ao.out];omega
  rw [ao.out] at hsl rD al;clear ax ay;go_wp2_with fail;refine (rNumbers _ _ _ _ _ rD (by omega)).mono ?_;rintro e w1 ⟨⟨aj,rfl⟩ | ⟨ah,v1,rfl,ak⟩,ab⟩
  ·have ag:Hid (¬ Syn vWork l):=λh=>aj (al.out.1 h).2.1;clear aj rD;have HD:Hid (Dln T S v l (erB 3) T S):=ai.out ag.out;obtain ⟨aa,_⟩:=HT.out _ ab;go_wp2_with fail;refine (rWrong 3 _ (by omega) (by omega) aa).mono ?_;rintro e wz ⟨rfl,ad⟩;have af:=btr ab ad;obtain ⟨X,HX⟩:=nmd (erB 3);rw [HX.out] at HD ⊢;clear ad aa;go_wp2;go_ret;exact Lle.quiet H.out af HD.out
  ·have a4:=hid ah;obtain ⟨D,aB⟩:=nmd (nbl (l.drop (j+1)) d);have a5:Hid (∀x ∈ D,0<=x/\x<=9999999999):=by unfold Hid;rw [<- aB.out];exact nbl_bd2 ah
   rw [aB.out] at ak;obtain ⟨a1,c1,rfl,ap⟩:=RdI.own ak (λx hx=>by have:=a5.out x hx;omega);have bj:=ap.cap;have a6:=ap.max;unfold maxLen at a6;have rT:=(r.below ab).tke (show j<=n by omega);have bk:∀W,(Instr.sliceAt 24 (.slice a n c) none (some (.int .i64 (j:Int))) none).run Tryz.prog W = .ok (.slice a j c) W:=λW=>run_subh Tryz.underlying24 infoStr1 a n c j r.nil (by omega) W;clear ah ak rD;go_wp2_with fail;refine (rNumbers _ _ _ _ _ rT (by omega)).mono ?_;rintro e w2 ⟨⟨aj,rfl⟩ | ⟨ah,v2,rfl,aq⟩,ar⟩
   ·have ag:Hid (¬ Syn vWork l):=λh=>aj (okn_take.2 (al.out.1 h).1);have ae:=btr ab ar;clear aj rT;have HD:Hid (Dln T S v l (erB 3) T S):=ai.out ag.out;obtain ⟨aa,_⟩:=HT.out _ ae;go_wp2_with fail;refine (rWrong 3 _ (by omega) (by omega) aa).mono ?_;rintro e wz ⟨rfl,ad⟩;have af:=btr ae ad;obtain ⟨X,HX⟩:=nmd (erB 3);rw [HX.out] at HD ⊢;clear ad aa;go_wp2;go_ret;exact Lle.quiet H.out af HD.out
   ·have aC:Hid (okn l j):=okn_take.1 ah;have ae:=btr ab ar;obtain ⟨N,au⟩:=nmd (nbl l j);have aD:Hid (∀x ∈ N,0<=x/\x<=9999999999):=by unfold Hid;rw [<- au.out];exact nbl_bd2 aC.out
    rw [nbl_take,au.out] at aq;obtain ⟨a2,c2,rfl,av⟩:=RdI.own aq (λx hx=>by have:=aD.out x hx;omega);have bl:=av.cap;have a7:=av.max;unfold maxLen at a7;clear ah aq rT;by_cases hc:2<=j
    ·have a8:Hid (Syn vWork l):=al.out.2 ⟨aC.out,a4.out,hc⟩;have aw:decide ((2:Int)<=(j:Int))=true:=decide_eq_true (by omega);obtain ⟨aE,a9⟩:=(H.out.same ae).text;have bc:=(H.out.same ae).plt;obtain ⟨aa,aF⟩:=HT.out w2 ae;have aL:=ap.below ar;have ba:Hid (∀out,Cir vWork N d T out->Dln T S v l out T S):=λout aG=>by
      rw [<- HV.out];refine .inr ⟨a8.out,?_⟩;unfold Dac;(iterate 4 rewrite [if_neg (by decide)]);rw [if_pos (by decide)];exact cir_dac aG (by rw [<- au.out,<- ao.out,<- am];exact dci_work l an.out)
     go_wp2_with fail;rw [<- HV.out];refine (rCircWork p T _ _ _ N _ _ _ D _ aE (by omega) av aL aD.out (by omega) hc aa aF).mono ?_;rintro e w3 ⟨out,rfl,aH,aI⟩;have af:=btr ae aI;have aM:Hid (Dln T S v l out T S):=ba.out out aH;clear aH aI aa aF aE a9;go_wp2;go_ret;rw [HV.out];exact Lle.quiet H.out af aM.out
    ·have ag:Hid (¬ Syn vWork l):=λh=>hc (al.out.1 h).2.2;have aw:decide ((2:Int)<=(j:Int))=false:=decide_eq_false (by omega);clear hc;have HD:Hid (Dln T S v l (erB 3) T S):=ai.out ag.out;obtain ⟨aa,_⟩:=HT.out _ ae;go_wp2_with fail;refine (rWrong 3 _ (by omega) (by omega) aa).mono ?_;rintro e wz ⟨rfl,ad⟩;have af:=btr ae ad;obtain ⟨X,HX⟩:=nmd (erB 3);rw [HX.out] at HD ⊢;clear ad aa;go_wp2;go_ret;exact Lle.quiet H.out af HD.out
 ·have ag:Hid (¬ Syn vWork l):=λh=>by
   obtain ⟨j,h1,_⟩:=(syn_vWork l).1 h;exact az j (by have:=h1.1;omega) h1.2.1
  have ai:Hid (¬ Syn vWork l->Dln T S v l (erB 3) T S):=λh=>by rw [<- HV.out];exact .inl ⟨h,rfl,rfl,rfl⟩
  clear az;go_wp2_with fail;refine (rNumbers _ _ _ l _ r (by omega)).mono ?_;rintro e w1 ⟨⟨aj,rfl⟩ | ⟨ah,v1,rfl,ak⟩,ab⟩
  ·clear aj;have HD:Hid (Dln T S v l (erB 3) T S):=ai.out ag.out;obtain ⟨aa,_⟩:=HT.out _ ab;go_wp2_with fail;refine (rWrong 3 _ (by omega) (by omega) aa).mono ?_;rintro e wz ⟨rfl,ad⟩;have af:=btr ab ad;obtain ⟨X,HX⟩:=nmd (erB 3);rw [HX.out] at HD ⊢;clear ad aa;go_wp2;go_ret;exact Lle.quiet H.out af HD.out
  ·obtain ⟨a1,c1,rfl,aG⟩:=own_slice ak;clear ah ak;by_cases hc:2<=n
   ·have aw:decide ((2:Int)<=(n:Int))=true:=decide_eq_true (by omega);have HD:Hid (Dln T S v l (erB 3) T S):=ai.out ag.out;obtain ⟨aa,_⟩:=HT.out _ ab;go_wp2_with fail;refine (rWrong 3 _ (by omega) (by omega) aa).mono ?_;rintro e wz ⟨rfl,ad⟩;have af:=btr ab ad;obtain ⟨X,HX⟩:=nmd (erB 3);rw [HX.out] at HD ⊢;clear ad aa;go_wp2;go_ret;exact Lle.quiet H.out af HD.out
   ·have aw:decide ((2:Int)<=(n:Int))=false:=decide_eq_false (by omega);have HD:Hid (Dln T S v l (erB 3) T S):=ai.out ag.out;obtain ⟨aa,_⟩:=HT.out _ ab;go_wp2_with fail;refine (rWrong 3 _ (by omega) (by omega) aa).mono ?_;rintro e wz ⟨rfl,ad⟩;have af:=btr ab ad;obtain ⟨X,HX⟩:=nmd (erB 3);rw [HX.out] at HD ⊢;clear ad aa;go_wp2;go_ret;exact Lle.quiet H.out af HD.out
theorem wpList_appX {P:Program} {T:TypeId} (hT:P.underlying T=some (.slice 70)) (info:(P.info? 70).map (λi=>(i.zero,i.size,i.bytes))=some (some (.int .u64 0),1,8)) (w:World) {ops:Array Oper} {rest:List Oper} {o:Oper} {a:Act} {Q:Exit->Act->World->Prop} (hgd:o.guard=none) (s x:Operand) (ho:o.op = .call { callee:=.builtin .append,args:=#[s,x],argTypes:=#[T,T] }) (base:Nat) (v:Value) (k:Nat) (ys:List Int) (hown:w.ownsRow base 70 1 v k (ys.map (Value.int .u64))) (hyb:∀z ∈ ys,0<=z/\z<=18446744073709551615) (a0 m c xs) (hR:Rd w a0 m c xs) (hs:a.eval s=v) (hx:a.eval x = .slice a0 m c) (hk:k<=1000) (hm:m<=1000) (hbase:base<=w.heap.size) (h:∀a' c' w',Rd w' a' (k+m) c' (ys++xs)->w.grownBy w' v.ownBlock->wpList P ops Q rest (a.put o.dst (.slice a' (k+m) c')) w'):
  wpList P ops Q (o :: rest) a w:=by
 obtain ⟨i0,hi,ae,af,ag⟩:=info_parts info;have ah:∀z ∈ ys++xs,0<=z/\z<=18446744073709551615:=λz hz=>(List.mem_append.1 hz).elim (hyb z) (hR.bd z);have hl:=hR.len;cases a0 with
 | none=>
  have hc:=hR.nil rfl;have aj:=hR.cap;obtain rfl:m=0:=by omega
  subst hc;obtain rfl:xs = []:=List.eq_nil_of_length_eq_zero hl;refine wpList_append_own_none hgd s x T ho base 70 i0 1 hT hi _ k _ hs hown hx ?_;obtain ⟨a',c',rfl,hr,_⟩:=Rd.own (xs:=ys) hown hyb;rw [List.append_nil] at h;exact h a' c' _ hr (World.grownBy.refl _ _)
 | some ad=>
  refine wpList_append_own _ hgd s x T ho base 70 i0 (.int .u64 0) 1 8 hT hi ae af ag rfl (by decide) _ k _ hs hown ad m c (xs.map (Value.int .u64)) hx (by rw [List.length_map,hl,Nat.mul_one]) ?_ ?_ (by unfold maxLen;omega) (by omega) hbase ?_
  ·intro j u hj;rw [List.getElem?_map] at hj;have ai:j<xs.length:=by
    rcases Nat.lt_or_ge j xs.length with h' | h'
    ·exact h'
    ·rw [List.getElem?_eq_none h'] at hj;cases hj
   rw [getD_some ai] at hj;simp only [Option.map_some,Option.some.injEq] at hj;rw [<- hj];exact hR.cell ad rfl j (by omega)
  ·intro u hu;obtain ⟨z,_,rfl⟩:=List.mem_map.1 hu;rfl
  ·intro v' w' aa ab _;rw [<- List.map_append] at aa;obtain ⟨a',c',rfl,hr,_⟩:=Rd.own (xs:=ys++xs) aa ah;exact h a' c' w' hr ab
def prk (N:List Int) (k:Nat):List (Int×Int):=(List.range k).map λi=>(N.getD (2*i+1) 0,N.getD (2*i+2) 0)
theorem prk_all (N:List Int):prk N ((N.length-1)/2)=prs N:=rfl
theorem prk_len (N:List Int) (k:Nat):(prk N k).length=k:=by simp [prk]
theorem prk_snoc (N:List Int) (k:Nat) {x y:Int} (hx:N.getD (2*k+1) 0=x) (hy:N.getD (2*k+2) 0=y):prk N k ++ [(x,y)]=prk N (k+1):=by
 unfold prk;rw [List.range_succ,List.map_append,<- hx,<- hy];rfl
theorem prk_getD (N:List Int) {k i:Nat} (h:i<k):(prk N k).getD i (0,0)=(N.getD (2*i+1) 0,N.getD (2*i+2) 0):=by simp [prk,h]
theorem Dcd.rb {l n t e P B r} (h:Dcd l n t e P B r): -9223372036854775808<=r/\r<=9223372036854775807:=by
 rcases h with ⟨⟨h1,_,_⟩,_⟩ | ⟨_,_,_,_,h1⟩ | ⟨_,_,_,_,_,h1⟩ | ⟨_,_,_,_,h1⟩ | ⟨_,_,_,_,_,_,h1⟩
 ·have:=h1.bd;omega
 all_goals omega
theorem Rob.rb {l n t x B r} (h:Rob l n t x B r): -9223372036854775808<=r/\r<=9223372036854775807:=by
 rcases h with ⟨h1,_,_,_⟩ | ⟨_,P,C,s,h1,⟨_,_,_,rfl⟩ | ⟨_,_,_,rfl⟩⟩
 ·have:=h1.bd;omega
 ·exact h1.rb
 ·omega
theorem Rob.small {l n t x B r} (h:Rob l n t x B r):(0<=x/\x<=2147483646)/\(∀y ∈ B,0<=y/\y<=9999999999)/\B.length<=9:=by
 rcases h with ⟨_,_,rfl,rfl⟩ | ⟨hS,P,C,s,h1,⟨_,rfl,rfl,_⟩ | ⟨rfl,rfl,rfl,_⟩⟩
 ·exact ⟨by omega,by simp,by simp⟩
 ·exact ⟨by omega,by simp,by simp⟩
 ·obtain ⟨_,_,hd,_,aa⟩:=hS.ok;obtain ⟨h2,h3⟩:=dcd_head h1;refine ⟨h3 _ (gmem h2),?_⟩
  rcases h1 with ⟨⟨_,h,_⟩,_⟩ | ⟨_,_,_,_,h⟩ | ⟨_,_,_,_,_,h⟩ | ⟨_,_,_,⟨p,_,_,hO⟩,_⟩ | ⟨_,_,_,_,_,_,h⟩
  ·exact absurd rfl h
  ·omega
  ·omega
  ·refine ⟨λy hy=>?_,?_⟩
   ·obtain ⟨i,hi,e⟩:=bdl_mem (hO.perm.mem_iff.1 hy);have:=(hd i hi).1;unfold fa at this;rw [e] at this;omega
   ·rw [hO.perm.length_eq];exact Nat.le_trans (bdl_le _ _ _) aa
  ·omega
theorem rLineRefr (w0 w p G T S a n c l) (h:Bnc w0 w p G T S) (r:RdT w a n c l) (hn:n<=70000) (hTz:T.size<=2048) (hlast:∀s,S=some s->s.last<=1000000) (hT:Tabs w0) (hV:Vb w0):
  Calls Tryz.prog 14 #[.pointer (some ⟨p,0,none⟩),.string vRefr,.slice a n c] w (Lle w0 p G T S vRefr l w):=by
 obtain ⟨v,HV⟩:=nmd vRefr;have ay:=qf14 HV (by decide +kernel);have az:=qf4 HV (by decide +kernel);have aA:=qf6 HV (by decide +kernel);have aB:=qf8 HV (by decide +kernel);have aC:(v.toList == [114,101,102,114,101,115,104])=true:=by rw [<- HV.out];decide +kernel
 have av:=qf9 HV (by decide +kernel);have aD:=qf7 HV (by decide +kernel);have aE:=qf10 HV (by decide +kernel);have aI:=qf2 HV (by decide +kernel);have aF:=qf3 HV (by decide +kernel);have aJ:=qf5 HV (by decide +kernel);have aG:=qf11 HV (by decide +kernel);have aK:=qf12 HV (by decide +kernel);have aL:=qf0 HV (by decide +kernel);have aH:=qf13 HV (by decide +kernel);rw [HV.out];have ae:=r.len;have aU:=r.cap;have aw:=r.max;unfold maxLen at aw;have aW:=h.plt;have H:=hid h;have HT:Hid (∀w',Below w.heap.size w w'->Tabs w'/\Vb w'):=λw' hb=>⟨hT.below (btr h.bel hb),hV.below (btr h.bel hb)⟩;clear h;go_enter Tryz.func14,Tryz.ntmps14;go_wp2_with fail;refine (sIndexT _ _ _ l ⟨#[47]⟩ _ r).mono ?_;rintro e w1 ⟨sl,rfl,al,hw⟩;have hw:=hw.symm;subst hw;have aX:=al.bd;clear al;go_wp2_with fail;refine (rNumbers _ _ _ l _ r (by omega)).mono ?_;rintro e w1 ⟨⟨am,rfl⟩ | ⟨an,v1,rfl,ah⟩,aa⟩
 ·have aM:=hid am;clear am;have HD:Hid (Dln T S v l (erB 3) T S):=by rw [<- HV.out];exact .inl ⟨λhs=>aM.out (by rw [<- ae];exact ((syn_vRefr l).1 hs).1),rfl,rfl,rfl⟩
  obtain ⟨ab,_⟩:=HT.out _ aa;go_wp2_with fail;refine (rWrong 3 _ (by omega) (by omega) ab).mono ?_;rintro e wz ⟨rfl,ad⟩;have af:=btr aa ad;obtain ⟨X,HX⟩:=nmd (erB 3);rw [HX.out] at HD ⊢;clear ad ab;go_wp2;go_ret;exact Lle.quiet H.out af HD.out
 ·have ao:Hid (okn l l.length):=by unfold Hid;rw [ae];exact an
  have aj:Hid (∀x ∈ nba l,0<=x/\x<=9999999999):=nba_bd ao.out;obtain ⟨N,ak⟩:=nmd (nba l);have e0:nbl l n=N:=by rw [<- ak.out,<- ae];rfl
  rw [e0] at ah;rw [ak.out] at aj;obtain ⟨a1,c1,rfl,ai⟩:=RdI.own ah (λx hx=>by have:=aj.out x hx;omega);have aN:Hid (∀x,a1=some x->w.heap.size<=x.block):=λx hx=>by subst hx;exact (ah.lt x.block rfl).1
  have aY:=ai.len;have aZ:=ai.cap;have aO:=ai.max;unfold maxLen at aO;clear an ah e0;by_cases hc:1<=n
  ·have ap:Hid (Syn vRefr l):=(syn_vRefr l).2 ⟨ao.out,by rw [ae];exact hc⟩;have aP:decide ((1:Int)<=(n:Int))=true:=decide_eq_true (by omega);obtain ⟨q,ag,⟨hS,rfl⟩ | ⟨s,b,hS,rfl,aq⟩⟩:=(H.out.same aa).row
   ·subst hS;have ar:w1.cell? ⟨p,1,none⟩=some (.pointer none):=by rw [cell_of_row w1 p _ _ _ (0,0) ag];rfl
    have ax:=(H.out.same aa).plt;clear ag;have HD:Hid (Dln T none v l (erB 4) T none):=by rw [<- HV.out];exact .inr ⟨ap.out,by unfold Dac;(iterate 5 rewrite [if_neg (by decide)]);rw [if_neg (by decide)];exact ⟨rfl,.inl ⟨rfl,rfl,rfl⟩⟩⟩
    obtain ⟨ab,_⟩:=HT.out _ aa;go_wp2_with fail;refine (rWrong 4 _ (by omega) (by omega) ab).mono ?_;rintro e wz ⟨rfl,ad⟩;have af:=btr aa ad;obtain ⟨X,HX⟩:=nmd (erB 4);rw [HX.out] at HD ⊢;clear ad ab;go_wp2;go_ret;exact Lle.quiet H.out af HD.out
   ·subst hS;have ar:w1.cell? ⟨p,1,none⟩=some (.pointer (some ⟨b,0,none⟩)):=by rw [cell_of_row w1 p _ _ _ (0,0) ag];rfl
    have ax:=(H.out.same aa).plt;have au:Hid (Bs w0 w1 p b G T s):=⟨ag,aq,H.out.off,H.out.low,H.out.lp,(H.out.same aa).bel⟩;have aQ:Hid (∀x,a1=some x->¬ G x.block):=λx hx g=>by have h1:=aN.out x hx;have h2:=H.out.lt _ g;omega
    have aR:=hlast s rfl;have aS:Hid (∀out s',Dky vRefr N s out s'->Dln T (some s) v l out T (some s')):=λout s' hd=>by rw [<- HV.out];exact .inr ⟨ap.out,by unfold Dac;(iterate 5 rewrite [if_neg (by decide)]);rw [if_neg (by decide)];exact ⟨rfl,.inr ⟨s,s',rfl,rfl,by rw [ak.out];exact hd⟩⟩⟩
    clear ag aq hlast;go_wp2_with fail;rw [<- HV.out];refine (rKeyRefr w0 _ p b G T s _ _ _ N au.out ai aj.out (by omega) (by omega) aQ.out hT aR).mono ?_;intro e w2 hk;have HL:Hid (Lle w0 p G T (some s) v l w e w2):=Lle.key aa H.out (by rw [HV.out] at hk;exact hk) (λout s' hd=>aS.out out s' (by rw [HV.out];exact hd));obtain ⟨out,s',rfl,_⟩:=hk;clear ar au;go_wp2;go_ret;exact HL.out
  ·have aT:Hid (¬ Syn vRefr l):=λhs=>hc (by rw [<- ae];exact ((syn_vRefr l).1 hs).2);have a0:¬ ((1:Int)<=(n:Int)):=by omega
   have aV:¬ (1<=n):=hc;have aP:decide ((1:Int)<=(n:Int))=false:=decide_eq_false (by omega);have HD:Hid (Dln T S v l (erB 3) T S):=by rw [<- HV.out];exact .inl ⟨aT.out,rfl,rfl,rfl⟩
   obtain ⟨ab,_⟩:=HT.out _ aa;go_wp2_with fail;refine (rWrong 3 _ (by omega) (by omega) ab).mono ?_;rintro e wz ⟨rfl,ad⟩;have af:=btr aa ad;obtain ⟨X,HX⟩:=nmd (erB 3);rw [HX.out] at HD ⊢;clear ad ab;go_wp2;go_ret;exact Lle.quiet H.out af HD.out
end
end Go.Proofs.YtljlioglpaogdacGreatDoor

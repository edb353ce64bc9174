/- ParseC GLineC PrintC -/
import Derived.Test.YtljlioglpaogdacGreatDoorToRLineC
import Derived.Test.YtljlioglpaogdacGreatDoorToCktC
namespace Go.Proofs.YtljlioglpaogdacGreatDoor
set_option linter.unusedVariables false
set_option maxRecDepth 100000
set_option maxHeartbeats 8000000
section
open Crm Go.RowKit
theorem mt_yes:(⟨#[]⟩:ByteArray).toList.isEmpty=true:=by decide +kernel
theorem mt_no {r:ByteArray} (h:r≠mt):r.toList.isEmpty=false:=by
 cases e:r.toList with
 | nil=>
  exfalso;apply h;rw [ByteArray.toList_eq] at e;apply ByteArray.ext;exact Array.ext' e
 | cons a l=>rfl
theorem own_baseP {w:World} {B B' n z:Nat} {E:TypeId} {v:Value} {xs:List Value} (h:w.ownsRow B E z v n xs) (hB:B'<=B):w.ownsRow B' E z v n xs:=by
 refine ⟨h.1,?_⟩
 rcases h.2 with h1 | ⟨g,aa,ab,e,hb,h2⟩
 ·exact .inl h1
 ·exact .inr ⟨g,aa,ab,e,Nat.le_trans hB hb,h2⟩
def put2 (w:World) (b:Nat) (x y:Value):World:=(w.setCell ⟨b,0,none⟩ x).setCell ⟨b,1,none⟩ y
theorem put2_grown (w:World) (b:Nat) (x y:Value):w.grownBy (put2 w b x y) (some b):=grown_trans (grown_set _ _ _ _) (grown_set _ _ _ _)
theorem put2_below {w0:World} {w} {b:Nat} {x y:Value} (h:Below w0.heap.size w0 w) (hb:w0.heap.size<=b):Below w0.heap.size w0 (put2 w b x y):=below_grown h (put2_grown w b x y) hb
theorem cParse (s:ByteArray) (w) (hs:s.size<=9223372036854775807) (hS:Shp w):Calls Tryz.prog 97 #[.string s] w λe w'=>Prn s w e w':=by
 have ak:=CBox.new w none 0 0 none 0 0;have ap:Below w.heap.size w (w.alloc (.cells #[.slice none 0 0,.slice none 0 0] 89)):=bal _ _;go_enter Tryz.func97,Tryz.ntmps97;go_upto_region 1 with fail;generalize w.alloc (.cells #[.slice none 0 0,.slice none 0 0] 89)=W at *;have aq:w.heap.size<W.heap.size:=ak.lt;by_cases hlong:2048<s.size
 ·have HP:Hid (Par s [] [] 0 2):=.inl ⟨hlong,rfl,rfl,rfl,rfl⟩;obtain ⟨z0,z1⟩:=ak.cells;have fz:=λi=>ak.frozen i;obtain ⟨y0,y1⟩:=two_put (x:=.slice none 0 0) (y:=.slice none 0 0) z0 z1;have ae:Hid (Below w.heap.size w (put2 W w.heap.size (.slice none 0 0) (.slice none 0 0))):=put2_below ap (Nat.le_refl _);unfold put2 at ae;clear ak ap;go_wp2;exact bodyPost_ret (v:=.tuple #[.agg #[.slice none 0 0,.slice none 0 0],.int .i64 ((0:Nat):Int),.int .i64 2]) (by simp [results,Tryz.results97,go_sem,y0,y1]) rfl (Prn.err HP.out ae.out)
 ·have aD:=CBox.new W none 0 0 none 0 0;have au:Below W.heap.size W (W.alloc (.cells #[.slice none 0 0,.slice none 0 0] 89)):=bal _ _;have aE:=btr ap au;have aF:=ak.below au aq;have aG:Crd (W.alloc (.cells #[.slice none 0 0,.slice none 0 0] 89)) W.heap.size W.heap.size none 0 0 none 0 0 [] []:=⟨aD,rfl,rfl,World.ownsRow_nil _ _ _ _,World.ownsRow_nil _ _ _ _⟩;go_upto_region 4 with fail;generalize W.alloc (.cells #[.slice none 0 0,.slice none 0 0] 89)=W1 at *;clear ap au ak aD;go_wp2;go_loopw [0,6] (λu v wr=>∃(i:Nat) (r:ByteArray) (ag:Option Addr) (cg:Nat) (ao:Option Addr) (co:Nat) (G:List Gt) (O:List Int),u = .string r/\v = .int .i64 ((i:Int)+1)/\i+r.size<=s.size/\Hid (Rst s i r)/\Hid (Rds (lns s) i G O)/\Crd wr W.heap.size W.heap.size ag G.length cg ao O.length co (G.map nmg) O/\CBox wr w.heap.size none 0 0 none 0 0/\Below w.heap.size w wr) (λu _ _=>(match u with | .string r=>r.size | _=>0))
  case atStart=>exact ⟨0,s,none,0,none,0,[],[],rfl,rfl,by omega,Rst.start s,⟨rfl,rfl⟩,aG,aF,aE⟩
  case round=>
   clear aG aF aE;obtain ⟨i,r,ag,cg,ao,co,G,O,rfl,rfl,aY,av,aa,hC,hZ,ah⟩:=hrel;have aR:=aa.out.len;obtain ⟨N,HN⟩:=nmd G.length;obtain ⟨M,HM⟩:=nmd O.length;rw [HN.out,HM.out] at hC aR;have aw:=ah.size;by_cases hr0:r=mt
   ·subst hr0;have he:(mt:ByteArray).toList.isEmpty=true:=mt_yes;obtain ⟨aj,al⟩:=av.out.last lns_mt;have aS:Hid (∀q,Cke G O G.length O.length q->q≠0->Par s [] [] 0 q):=λq hq h0=>.inr ⟨by omega,.inr ⟨G,O,by rw [aj];exact aa.out,.inr ⟨al,rfl,hq,.inl ⟨h0,rfl,rfl⟩⟩⟩⟩;have aT:Hid (Cke G O G.length O.length 0->Par s G O 0 0):=λhq=>.inr ⟨by omega,.inr ⟨G,O,by rw [aj];exact aa.out,.inr ⟨al,rfl,hq,.inr ⟨rfl,rfl,rfl⟩⟩⟩⟩;have aH:=gbd_nm aa.out.bd.1;have aI:=aa.out.bd.2;have aU:=hid aa.out.zn;have hG:=RdG.ownA hC.own hC.ln aH;have hO:=RdI.ownA hC.ins aI;obtain ⟨d0,d1⟩:=hC.box.cells;have aJ:=hC.box.lt;clear aH aI aj al;go_wp2_with fail;refine (cCheckC _ _ _ _ _ _ _ _ _ hG hO (hS.below ah)).mono ?_;rintro e w3 ⟨q,rfl,hq,af⟩;have aK:=hq.bd;have HQ:Hid (Cke G O G.length O.length q):=by
     unfold Hid;rw [HN.out,HM.out];exact (cke_nm aU.out).1 hq
    have ai:=hC.below af;have ab:=hZ.below af hZ.lt;have ad:=ah.trans (af.mono aw);obtain ⟨z0,z1⟩:=ab.cells;have fz:=λi=>ab.frozen i;have zl:=ab.lt;clear hq hG hO hC hZ af ah d0 d1 aJ;by_cases hq0:q=0
    ·subst hq0;have HP:Hid (Par s G O 0 0):=aT.out HQ.out;obtain ⟨d0,d1⟩:=ai.box.cells;have aJ:=ai.box.lt;obtain ⟨y0,y1⟩:=two_put (x:=.slice ag N cg) (y:=.slice ao M co) z0 z1;have ax:=put2_grown w3 w.heap.size (.slice ag N cg) (.slice ao M co);have k1:=box_apart ab ai.own eGC;have k2:=box_apart ab ai.ins eIC;have aL:Hid (World.ownsRow _ _ _ _ _ _ _):=own_baseP (ai.own.kept ax (.inr (λe=>k1 e.symm))) (Nat.le_of_lt aq);have aM:Hid (World.ownsRow _ _ _ _ _ _ _):=own_baseP (ai.ins.kept ax (.inr (λe=>k2 e.symm))) (Nat.le_of_lt aq);have ae:Hid (Below w.heap.size w (put2 w3 w.heap.size (.slice ag N cg) (.slice ao M co))):=put2_below ad (Nat.le_refl _);unfold put2 at aL aM ae;clear ax k1 k2 ai ab ad aK;go_wp2;exact bodyPost_ret (v:=.tuple #[.agg #[.slice ag N cg,.slice ao M co],.int .i64 ((0:Nat):Int),.int .i64 0]) (by simp [results,Tryz.results97,go_sem,y0,y1]) rfl ⟨ag,cg,ao,co,0,0,G,O,by rw [HN.out,HM.out],HP.out,by rw [HN.out];exact aL.out,by rw [HM.out];exact aM.out,ae.out⟩
    ·have HP:Hid (Par s [] [] 0 q):=aS.out q HQ.out hq0;have aZ:(q != 0)=true:=by rw [bne_iff_ne];exact hq0
     obtain ⟨y0,y1⟩:=two_put (x:=.slice none 0 0) (y:=.slice none 0 0) z0 z1;have ae:Hid (Below w.heap.size w (put2 w3 w.heap.size (.slice none 0 0) (.slice none 0 0))):=put2_below ad (Nat.le_refl _);unfold put2 at ae;clear ai ab ad hq0 aK;go_wp2;exact bodyPost_ret (v:=.tuple #[.agg #[.slice none 0 0,.slice none 0 0],.int .i64 ((0:Nat):Int),.int .i64 q]) (by simp [results,Tryz.results97,go_sem,y0,y1]) rfl (Prn.err HP.out ae.out)
   ·have he:r.toList.isEmpty=false:=mt_no hr0;rcases cut_cases r 10 with ⟨hx,hp⟩ | ⟨j,hx,hj,hp⟩
    ·obtain ⟨aj,al⟩:=av.out.last hp;have HP:Hid (Par s [] [] (i+1) 3):=.inr ⟨by omega,.inr ⟨G,O,by rw [aj];exact aa.out,.inl ⟨by rw [al];exact hr0,rfl,rfl,by rw [aj],rfl⟩⟩⟩;clear aj al hp hr0;go_wp2_with fail;refine (sCutN r wr hx).mono ?_;rintro e w3 ⟨rfl,af⟩;have ab:=hZ.below af hZ.lt;have ad:=ah.trans (af.mono aw);obtain ⟨z0,z1⟩:=ab.cells;have fz:=λi=>ab.frozen i;have zl:=ab.lt;obtain ⟨y0,y1⟩:=two_put (x:=.slice none 0 0) (y:=.slice none 0 0) z0 z1;have ae:Hid (Below w.heap.size w (put2 w3 w.heap.size (.slice none 0 0) (.slice none 0 0))):=put2_below ad (Nat.le_refl _);unfold put2 at ae;clear ab ad hC hZ ah af hx he;go_wp2;exact bodyPost_ret (v:=.tuple #[.agg #[.slice none 0 0,.slice none 0 0],.int .i64 ((i+1:Nat):Int),.int .i64 3]) (by simp [results,Tryz.results97,go_sem,y0,y1]) rfl (Prn.err HP.out ae.out)
    ·obtain ⟨ay,az,aN⟩:=av.out.next hp;obtain ⟨t,Ht⟩:=nmd (r.extract 0 j);obtain ⟨u,Hu⟩:=nmd (r.extract (j+1) r.size);have aV:t.size<=2048:=by rw [<- Ht.out,ByteArray.size_extract];omega
     have a0:u.size+(j+1)=r.size:=by rw [<- Hu.out,ByteArray.size_extract];omega
     rw [Hu.out] at ay;rw [Ht.out] at az;have aO:=hid ay;have HT:=hid az;have aW:=hid aN;clear ay az aN hp hr0;go_wp2_with fail;refine (sCutY r j wr hx hj (by omega)).mono ?_;rintro e w3 ⟨rfl,af⟩;rw [Ht.out,Hu.out];have ai:=hC.below af;have ab:=hZ.below af hZ.lt;have ad:=ah.trans (af.mono aw);have aP:=hS.below ad;clear hC hZ ah af hx he;go_wp2_with fail;refine (cReadLine W.heap.size W.heap.size t ag N cg ao M co (G.map nmg) O w3 ai (Nat.le_refl _) aP aV (by omega) (by omega) aa.out.bd.2).mono ?_;rintro e w4 ⟨aX,aA⟩;have am:=ab.below aA aq;have an:Below w.heap.size w w4:=ad.trans (aA.mono (Nat.le_of_lt aq));clear ai ab ad aA aP;rcases aX with ⟨g,a',c',hL,aB,rfl,ar⟩ | ⟨x,a',c',hL,rfl,ar⟩ | ⟨aQ,rfl⟩
     ·have HR:Hid (Rds (lns s) (i+1) (G ++ [g]) O):=⟨G,O,aa.out,.inl ⟨g,by rw [HT.out];exact hL,aB,rfl,aB⟩⟩;have aC:Hid (Crd w4 W.heap.size W.heap.size a' (G ++ [g]).length c' ao O.length co ((G ++ [g]).map nmg) O):=by
       unfold Hid;rw [HM.out,List.length_append,HN.out,List.map_append];exact ar
      clear hL aB ar;go_wp2;go_roundw
      case rel=>exact ⟨i+1,u,a',c',ao,co,G ++ [g],O,rfl,by go_num,by omega,aO,HR,aC.out,am,an⟩
      case measure=>simp;omega
     ·have HR:Hid (Rds (lns s) (i+1) G (O ++ [x])):=⟨G,O,aa.out,.inr ⟨x,by rw [HT.out];exact hL,rfl,rfl⟩⟩;have aC:Hid (Crd w4 W.heap.size W.heap.size ag G.length cg a' (O ++ [x]).length c' (G.map nmg) (O ++ [x])):=by
       unfold Hid;rw [HN.out,List.length_append,HM.out];exact ar
      clear hL ar;go_wp2;go_roundw
      case rel=>exact ⟨i+1,u,ag,cg,a',c',G,O ++ [x],rfl,by go_num,by omega,aO,HR,aC.out,am,an⟩
      case measure=>simp;omega
     ·have HP:Hid (Par s [] [] (i+1) 3):=.inr ⟨by omega,.inl ⟨i,G,O,aW.out,aa.out,by rw [HT.out];exact aQ,rfl,rfl,rfl,rfl⟩⟩;obtain ⟨z0,z1⟩:=am.cells;have fz:=λi=>am.frozen i;have zl:=am.lt;obtain ⟨y0,y1⟩:=two_put (x:=.slice none 0 0) (y:=.slice none 0 0) z0 z1;have ae:Hid (Below w.heap.size w (put2 w4 w.heap.size (.slice none 0 0) (.slice none 0 0))):=put2_below an (Nat.le_refl _);unfold put2 at ae;clear am an aQ;go_wp2;exact bodyPost_ret (v:=.tuple #[.agg #[.slice none 0 0,.slice none 0 0],.int .i64 ((i+1:Nat):Int),.int .i64 3]) (by simp [results,Tryz.results97,go_sem,y0,y1]) rfl (Prn.err HP.out ae.out)
theorem shw_vb (k:Nat):shw k=vb k:=rfl
def Gll (g:Gt) (w:World) (e:Ending) (w':World):Prop:=e = .returned (.string (vb g.k.toNat++arg g++⟨#[10]⟩))/\Below w.heap.size w w'
theorem cGateLine (k x y z:Int) (i w) (hok:okg i ⟨k,x,y,z⟩) (hi:i<=30) (hz:0<=z/\z<=18446744073709551615) (hS:Shp w) (hT:Tabs w):
  Calls Tryz.prog 157 #[.agg #[.int .i64 k,.int .i64 x,.int .i64 y,.int .u64 z]] w λe w'=>Gll ⟨k,x,y,z⟩ w e w':=by
 have ak:Below w.heap.size w (w.alloc (.cells #[.int .i64 k,.int .i64 x,.int .i64 y,.int .u64 z] 138)):=bal _ _;obtain ⟨q1,q2,q3,q4⟩:=gate_box w k x y z 138;have af:w.heap.size<(w.alloc (.cells #[.int .i64 k,.int .i64 x,.int .i64 y,.int .u64 z] 138)).heap.size:=by simp
 have aV:=nm_bd z;have sp:=sp_size;have nl:=nl_size;go_enter Tryz.func157,Tryz.ntmps157;go_upto_region 1 with fail;generalize w.alloc (.cells #[.int .i64 k,.int .i64 x,.int .i64 y,.int .u64 z] 138)=W at *;have am:=hS.below ak;clear hS;rcases hok with ⟨p1,p2,p3,p4⟩ | ⟨p1,p2,p3⟩ | ⟨p1,p2,p3⟩ | ⟨p1,p2,p3,p4⟩
 ·simp only at p1 p2 p3 p4;subst p1 p3 p4;obtain ⟨v,HV⟩:=nmd (shw 1);obtain ⟨an,s1,s2,s3⟩:=am.at1;have s0:W.cell? ⟨4,4,none⟩=some (.string v):=by rw [<- HV.out];exact an
  clear an;have aA:v.size<=5:=by rw [<- HV.out];exact vb_size 1 (by omega)
  have slt:=am.lt;have aa:Below W.heap.size W (W.alloc (.cells #[.string v,.bool true,.bool false,.bool false] 224)):=bal _ _;have ag:=btr ak aa;obtain ⟨t0,t1,t2,t3⟩:=shape_box W v true false false 224;have ab:W.heap.size<(W.alloc (.cells #[.string v,.bool true,.bool false,.bool false] 224)).heap.size:=by simp
  have r1:(W.alloc (.cells #[.string v,.bool true,.bool false,.bool false] 224)).cell? ⟨w.heap.size,0,none⟩=some (.int .i64 1):=by rw [aa.cell (p:=⟨w.heap.size,0,none⟩) af];exact q1
  have r2:(W.alloc (.cells #[.string v,.bool true,.bool false,.bool false] 224)).cell? ⟨w.heap.size,1,none⟩=some (.int .i64 x):=by rw [aa.cell (p:=⟨w.heap.size,1,none⟩) af];exact q2
  have r3:(W.alloc (.cells #[.string v,.bool true,.bool false,.bool false] 224)).cell? ⟨w.heap.size,2,none⟩=some (.int .i64 0):=by rw [aa.cell (p:=⟨w.heap.size,2,none⟩) af];exact q3
  have r4:(W.alloc (.cells #[.string v,.bool true,.bool false,.bool false] 224)).cell? ⟨w.heap.size,3,none⟩=some (.int .u64 0):=by rw [aa.cell (p:=⟨w.heap.size,3,none⟩) af];exact q4
  have ad:=Nat.lt_trans af ab;go_upto_region 2 with fail;generalize W.alloc (.cells #[.string v,.bool true,.bool false,.bool false] 224)=V at *;clear s0 s1 s2 s3 q1 q2 q3 q4 aa ak am;have ao:=hT.below ag;have aj:Hid (∀w',Below V.heap.size V w'->(w'.cell? ⟨W.heap.size,0,none⟩=some (.string v)/\w'.cell? ⟨W.heap.size,1,none⟩=some (.bool true)/\w'.cell? ⟨W.heap.size,2,none⟩=some (.bool false)/\w'.cell? ⟨W.heap.size,3,none⟩=some (.bool false))/\(w'.cell? ⟨w.heap.size,1,none⟩=some (.int .i64 x)/\w'.cell? ⟨w.heap.size,2,none⟩=some (.int .i64 0)/\w'.cell? ⟨w.heap.size,3,none⟩=some (.int .u64 0))/\w.heap.size<w'.heap.size/\W.heap.size<w'.heap.size/\Tabs w'/\Below w.heap.size w w'):=λw' hb=>by
   refine ⟨⟨?_,?_,?_,?_⟩,⟨?_,?_,?_⟩,Nat.lt_of_lt_of_le ad hb.size,Nat.lt_of_lt_of_le ab hb.size,ao.below hb,btr ag hb⟩
   ·rw [hb.cell (p:=⟨W.heap.size,0,none⟩) ab];exact t0
   ·rw [hb.cell (p:=⟨W.heap.size,1,none⟩) ab];exact t1
   ·rw [hb.cell (p:=⟨W.heap.size,2,none⟩) ab];exact t2
   ·rw [hb.cell (p:=⟨W.heap.size,3,none⟩) ab];exact t3
   ·rw [hb.cell (p:=⟨w.heap.size,1,none⟩) ad];exact r2
   ·rw [hb.cell (p:=⟨w.heap.size,2,none⟩) ad];exact r3
   ·rw [hb.cell (p:=⟨w.heap.size,3,none⟩) ad];exact r4
  have ar:=itb_size x (by omega) (by omega);obtain ⟨u0,ah⟩:=nmd (itb x);rw [ah.out] at ar;have b0:=add_run (P:=Tryz.prog) ⟨#[32]⟩ u0 (by (repeat rw [ByteArray.size_append]);omega);have a0:=add_run (P:=Tryz.prog) (v) (⟨#[32]⟩++u0) (by (repeat rw [ByteArray.size_append]);omega);have ae:=add_run (P:=Tryz.prog) (v++(⟨#[32]⟩++u0)) ⟨#[10]⟩ (by (repeat rw [ByteArray.size_append]);omega);have HA:Hid (vb ((1:Int).toNat)++arg ⟨1,x,0,0⟩++⟨#[10]⟩=v++(⟨#[32]⟩++u0)++⟨#[10]⟩):=by
   unfold Hid;rw [<- HV.out,<- ah.out];show vb 1++(⟨#[32]⟩++itb x)++⟨#[10]⟩=_;simp only [ByteArray.append_assoc,shw_vb]
  go_wp2_with fail;refine (sItoa x _ (by omega) (by omega) ao).mono ?_;rintro e w1 ⟨rfl,ai⟩;rw [ah.out];have al:=ai;obtain ⟨⟨aB,aC,aD,aE⟩,⟨aF,aG,aH⟩,aI,aJ,au,av⟩:=aj.out _ al;clear ai;go_wp2;go_ret;exact ⟨by show _=Ending.returned (.string (vb ((1:Int).toNat)++arg ⟨1,x,0,0⟩++⟨#[10]⟩));rw [HA.out];rfl,av⟩
 ·simp only at p1 p2 p3;subst p1 p2 p3;obtain ⟨v,HV⟩:=nmd (shw 2);obtain ⟨an,s1,s2,s3⟩:=am.at2;have s0:W.cell? ⟨4,8,none⟩=some (.string v):=by rw [<- HV.out];exact an
  clear an;have aA:v.size<=5:=by rw [<- HV.out];exact vb_size 2 (by omega)
  have slt:=am.lt;have aa:Below W.heap.size W (W.alloc (.cells #[.string v,.bool false,.bool false,.bool true] 224)):=bal _ _;have ag:=btr ak aa;obtain ⟨t0,t1,t2,t3⟩:=shape_box W v false false true 224;have ab:W.heap.size<(W.alloc (.cells #[.string v,.bool false,.bool false,.bool true] 224)).heap.size:=by simp
  have r1:(W.alloc (.cells #[.string v,.bool false,.bool false,.bool true] 224)).cell? ⟨w.heap.size,0,none⟩=some (.int .i64 2):=by rw [aa.cell (p:=⟨w.heap.size,0,none⟩) af];exact q1
  have r2:(W.alloc (.cells #[.string v,.bool false,.bool false,.bool true] 224)).cell? ⟨w.heap.size,1,none⟩=some (.int .i64 0):=by rw [aa.cell (p:=⟨w.heap.size,1,none⟩) af];exact q2
  have r3:(W.alloc (.cells #[.string v,.bool false,.bool false,.bool true] 224)).cell? ⟨w.heap.size,2,none⟩=some (.int .i64 0):=by rw [aa.cell (p:=⟨w.heap.size,2,none⟩) af];exact q3
  have r4:(W.alloc (.cells #[.string v,.bool false,.bool false,.bool true] 224)).cell? ⟨w.heap.size,3,none⟩=some (.int .u64 z):=by rw [aa.cell (p:=⟨w.heap.size,3,none⟩) af];exact q4
  have ad:=Nat.lt_trans af ab;go_upto_region 2 with fail;generalize W.alloc (.cells #[.string v,.bool false,.bool false,.bool true] 224)=V at *;clear s0 s1 s2 s3 q1 q2 q3 q4 aa ak am;have ao:=hT.below ag;have aj:Hid (∀w',Below V.heap.size V w'->(w'.cell? ⟨W.heap.size,0,none⟩=some (.string v)/\w'.cell? ⟨W.heap.size,1,none⟩=some (.bool false)/\w'.cell? ⟨W.heap.size,2,none⟩=some (.bool false)/\w'.cell? ⟨W.heap.size,3,none⟩=some (.bool true))/\(w'.cell? ⟨w.heap.size,1,none⟩=some (.int .i64 0)/\w'.cell? ⟨w.heap.size,2,none⟩=some (.int .i64 0)/\w'.cell? ⟨w.heap.size,3,none⟩=some (.int .u64 z))/\w.heap.size<w'.heap.size/\W.heap.size<w'.heap.size/\Tabs w'/\Below w.heap.size w w'):=λw' hb=>by
   refine ⟨⟨?_,?_,?_,?_⟩,⟨?_,?_,?_⟩,Nat.lt_of_lt_of_le ad hb.size,Nat.lt_of_lt_of_le ab hb.size,ao.below hb,btr ag hb⟩
   ·rw [hb.cell (p:=⟨W.heap.size,0,none⟩) ab];exact t0
   ·rw [hb.cell (p:=⟨W.heap.size,1,none⟩) ab];exact t1
   ·rw [hb.cell (p:=⟨W.heap.size,2,none⟩) ab];exact t2
   ·rw [hb.cell (p:=⟨W.heap.size,3,none⟩) ab];exact t3
   ·rw [hb.cell (p:=⟨w.heap.size,1,none⟩) ad];exact r2
   ·rw [hb.cell (p:=⟨w.heap.size,2,none⟩) ad];exact r3
   ·rw [hb.cell (p:=⟨w.heap.size,3,none⟩) ad];exact r4
  obtain ⟨N,HN⟩:=nmd (nm z);have aK:=aV;rw [HN.out] at aK;have ar:=itb_size N (by omega) (by omega);obtain ⟨u0,ah⟩:=nmd (itb N);rw [ah.out] at ar;have b0:=add_run (P:=Tryz.prog) ⟨#[32]⟩ u0 (by (repeat rw [ByteArray.size_append]);omega);have a0:=add_run (P:=Tryz.prog) (v) (⟨#[32]⟩++u0) (by (repeat rw [ByteArray.size_append]);omega);have ae:=add_run (P:=Tryz.prog) (v++(⟨#[32]⟩++u0)) ⟨#[10]⟩ (by (repeat rw [ByteArray.size_append]);omega);have HA:Hid (vb ((2:Int).toNat)++arg ⟨2,0,0,z⟩++⟨#[10]⟩=v++(⟨#[32]⟩++u0)++⟨#[10]⟩):=by
   unfold Hid;rw [<- HV.out,<- ah.out,<- HN.out];show vb 2++(⟨#[32]⟩++itb (nm z))++⟨#[10]⟩=_;simp only [ByteArray.append_assoc,shw_vb]
  go_wp2_with fail;refine (fNorm z _ hz.1 hz.2).mono ?_;rintro e wN ⟨rfl,aw⟩;have aw:=aw.symm;subst aw;rw [HN.out];go_wp2_with fail;refine (sFormatUint N _ (by omega) (by omega) ao).mono ?_;rintro e w1 ⟨rfl,ai⟩;rw [ah.out];have al:=ai;obtain ⟨⟨aB,aC,aD,aE⟩,⟨aF,aG,aH⟩,aI,aJ,au,av⟩:=aj.out _ al;clear ai;go_wp2;go_ret;exact ⟨by show _=Ending.returned (.string (vb ((2:Int).toNat)++arg ⟨2,0,0,z⟩++⟨#[10]⟩));rw [HA.out];rfl,av⟩
 ·simp only at p1 p2 p3;subst p1 p3;obtain ⟨v,HV⟩:=nmd (shw 6);obtain ⟨an,s1,s2,s3⟩:=am.at6;have s0:W.cell? ⟨4,24,none⟩=some (.string v):=by rw [<- HV.out];exact an
  clear an;have aA:v.size<=5:=by rw [<- HV.out];exact vb_size 6 (by omega)
  have slt:=am.lt;have aa:Below W.heap.size W (W.alloc (.cells #[.string v,.bool true,.bool false,.bool true] 224)):=bal _ _;have ag:=btr ak aa;obtain ⟨t0,t1,t2,t3⟩:=shape_box W v true false true 224;have ab:W.heap.size<(W.alloc (.cells #[.string v,.bool true,.bool false,.bool true] 224)).heap.size:=by simp
  have r1:(W.alloc (.cells #[.string v,.bool true,.bool false,.bool true] 224)).cell? ⟨w.heap.size,0,none⟩=some (.int .i64 6):=by rw [aa.cell (p:=⟨w.heap.size,0,none⟩) af];exact q1
  have r2:(W.alloc (.cells #[.string v,.bool true,.bool false,.bool true] 224)).cell? ⟨w.heap.size,1,none⟩=some (.int .i64 x):=by rw [aa.cell (p:=⟨w.heap.size,1,none⟩) af];exact q2
  have r3:(W.alloc (.cells #[.string v,.bool true,.bool false,.bool true] 224)).cell? ⟨w.heap.size,2,none⟩=some (.int .i64 0):=by rw [aa.cell (p:=⟨w.heap.size,2,none⟩) af];exact q3
  have r4:(W.alloc (.cells #[.string v,.bool true,.bool false,.bool true] 224)).cell? ⟨w.heap.size,3,none⟩=some (.int .u64 z):=by rw [aa.cell (p:=⟨w.heap.size,3,none⟩) af];exact q4
  have ad:=Nat.lt_trans af ab;go_upto_region 2 with fail;generalize W.alloc (.cells #[.string v,.bool true,.bool false,.bool true] 224)=V at *;clear s0 s1 s2 s3 q1 q2 q3 q4 aa ak am;have ao:=hT.below ag;have aj:Hid (∀w',Below V.heap.size V w'->(w'.cell? ⟨W.heap.size,0,none⟩=some (.string v)/\w'.cell? ⟨W.heap.size,1,none⟩=some (.bool true)/\w'.cell? ⟨W.heap.size,2,none⟩=some (.bool false)/\w'.cell? ⟨W.heap.size,3,none⟩=some (.bool true))/\(w'.cell? ⟨w.heap.size,1,none⟩=some (.int .i64 x)/\w'.cell? ⟨w.heap.size,2,none⟩=some (.int .i64 0)/\w'.cell? ⟨w.heap.size,3,none⟩=some (.int .u64 z))/\w.heap.size<w'.heap.size/\W.heap.size<w'.heap.size/\Tabs w'/\Below w.heap.size w w'):=λw' hb=>by
   refine ⟨⟨?_,?_,?_,?_⟩,⟨?_,?_,?_⟩,Nat.lt_of_lt_of_le ad hb.size,Nat.lt_of_lt_of_le ab hb.size,ao.below hb,btr ag hb⟩
   ·rw [hb.cell (p:=⟨W.heap.size,0,none⟩) ab];exact t0
   ·rw [hb.cell (p:=⟨W.heap.size,1,none⟩) ab];exact t1
   ·rw [hb.cell (p:=⟨W.heap.size,2,none⟩) ab];exact t2
   ·rw [hb.cell (p:=⟨W.heap.size,3,none⟩) ab];exact t3
   ·rw [hb.cell (p:=⟨w.heap.size,1,none⟩) ad];exact r2
   ·rw [hb.cell (p:=⟨w.heap.size,2,none⟩) ad];exact r3
   ·rw [hb.cell (p:=⟨w.heap.size,3,none⟩) ad];exact r4
  have ar:=itb_size x (by omega) (by omega);obtain ⟨u0,ah⟩:=nmd (itb x);rw [ah.out] at ar;have b0:=add_run (P:=Tryz.prog) ⟨#[32]⟩ u0 (by (repeat rw [ByteArray.size_append]);omega);have a0:=add_run (P:=Tryz.prog) (v) (⟨#[32]⟩++u0) (by (repeat rw [ByteArray.size_append]);omega);obtain ⟨N,HN⟩:=nmd (nm z);have aK:=aV;rw [HN.out] at aK;have ax:=itb_size N (by omega) (by omega);obtain ⟨u1,ap⟩:=nmd (itb N);rw [ap.out] at ax;have b1:=add_run (P:=Tryz.prog) ⟨#[32]⟩ u1 (by (repeat rw [ByteArray.size_append]);omega);have a1:=add_run (P:=Tryz.prog) (v++(⟨#[32]⟩++u0)) (⟨#[32]⟩++u1) (by (repeat rw [ByteArray.size_append]);omega);have ae:=add_run (P:=Tryz.prog) (v++(⟨#[32]⟩++u0)++(⟨#[32]⟩++u1)) ⟨#[10]⟩ (by (repeat rw [ByteArray.size_append]);omega);have HA:Hid (vb ((6:Int).toNat)++arg ⟨6,x,0,z⟩++⟨#[10]⟩=v++(⟨#[32]⟩++u0)++(⟨#[32]⟩++u1)++⟨#[10]⟩):=by
   unfold Hid;rw [<- HV.out,<- ah.out,<- ap.out,<- HN.out];show vb 6++(⟨#[32]⟩++itb x++⟨#[32]⟩++itb (nm z))++⟨#[10]⟩=_;simp only [ByteArray.append_assoc,shw_vb]
  go_wp2_with fail;refine (sItoa x _ (by omega) (by omega) ao).mono ?_;rintro e w1 ⟨rfl,ai⟩;rw [ah.out];have al:=ai;obtain ⟨⟨aB,aC,aD,aE⟩,⟨aF,aG,aH⟩,aI,aJ,au,av⟩:=aj.out _ al;clear ai;go_wp2_with fail;refine (fNorm z _ hz.1 hz.2).mono ?_;rintro e wN ⟨rfl,aw⟩;have aw:=aw.symm;subst aw;rw [HN.out];go_wp2_with fail;refine (sFormatUint N _ (by omega) (by omega) au).mono ?_;rintro e w2 ⟨rfl,aq⟩;rw [ap.out];have ay:=btr al aq;obtain ⟨⟨aL,aM,aN,aO⟩,⟨aP,aQ,aR⟩,aS,aT,aU,az⟩:=aj.out _ ay;clear aq;go_wp2;go_ret;exact ⟨by show _=Ending.returned (.string (vb ((6:Int).toNat)++arg ⟨6,x,0,z⟩++⟨#[10]⟩));rw [HA.out];rfl,az⟩
 ·simp only at p1 p2 p3 p4;subst p4;rcases p1 with p1 | p1 | p1
  ·subst p1;obtain ⟨v,HV⟩:=nmd (shw 3);obtain ⟨an,s1,s2,s3⟩:=am.at3;have s0:W.cell? ⟨4,12,none⟩=some (.string v):=by rw [<- HV.out];exact an
   clear an;have aA:v.size<=5:=by rw [<- HV.out];exact vb_size 3 (by omega)
   have slt:=am.lt;have aa:Below W.heap.size W (W.alloc (.cells #[.string v,.bool true,.bool true,.bool false] 224)):=bal _ _;have ag:=btr ak aa;obtain ⟨t0,t1,t2,t3⟩:=shape_box W v true true false 224;have ab:W.heap.size<(W.alloc (.cells #[.string v,.bool true,.bool true,.bool false] 224)).heap.size:=by simp
   have r1:(W.alloc (.cells #[.string v,.bool true,.bool true,.bool false] 224)).cell? ⟨w.heap.size,0,none⟩=some (.int .i64 3):=by rw [aa.cell (p:=⟨w.heap.size,0,none⟩) af];exact q1
   have r2:(W.alloc (.cells #[.string v,.bool true,.bool true,.bool false] 224)).cell? ⟨w.heap.size,1,none⟩=some (.int .i64 x):=by rw [aa.cell (p:=⟨w.heap.size,1,none⟩) af];exact q2
   have r3:(W.alloc (.cells #[.string v,.bool true,.bool true,.bool false] 224)).cell? ⟨w.heap.size,2,none⟩=some (.int .i64 y):=by rw [aa.cell (p:=⟨w.heap.size,2,none⟩) af];exact q3
   have r4:(W.alloc (.cells #[.string v,.bool true,.bool true,.bool false] 224)).cell? ⟨w.heap.size,3,none⟩=some (.int .u64 0):=by rw [aa.cell (p:=⟨w.heap.size,3,none⟩) af];exact q4
   have ad:=Nat.lt_trans af ab;go_upto_region 2 with fail;generalize W.alloc (.cells #[.string v,.bool true,.bool true,.bool false] 224)=V at *;clear s0 s1 s2 s3 q1 q2 q3 q4 aa ak am;have ao:=hT.below ag;have aj:Hid (∀w',Below V.heap.size V w'->(w'.cell? ⟨W.heap.size,0,none⟩=some (.string v)/\w'.cell? ⟨W.heap.size,1,none⟩=some (.bool true)/\w'.cell? ⟨W.heap.size,2,none⟩=some (.bool true)/\w'.cell? ⟨W.heap.size,3,none⟩=some (.bool false))/\(w'.cell? ⟨w.heap.size,1,none⟩=some (.int .i64 x)/\w'.cell? ⟨w.heap.size,2,none⟩=some (.int .i64 y)/\w'.cell? ⟨w.heap.size,3,none⟩=some (.int .u64 0))/\w.heap.size<w'.heap.size/\W.heap.size<w'.heap.size/\Tabs w'/\Below w.heap.size w w'):=λw' hb=>by
    refine ⟨⟨?_,?_,?_,?_⟩,⟨?_,?_,?_⟩,Nat.lt_of_lt_of_le ad hb.size,Nat.lt_of_lt_of_le ab hb.size,ao.below hb,btr ag hb⟩
    ·rw [hb.cell (p:=⟨W.heap.size,0,none⟩) ab];exact t0
    ·rw [hb.cell (p:=⟨W.heap.size,1,none⟩) ab];exact t1
    ·rw [hb.cell (p:=⟨W.heap.size,2,none⟩) ab];exact t2
    ·rw [hb.cell (p:=⟨W.heap.size,3,none⟩) ab];exact t3
    ·rw [hb.cell (p:=⟨w.heap.size,1,none⟩) ad];exact r2
    ·rw [hb.cell (p:=⟨w.heap.size,2,none⟩) ad];exact r3
    ·rw [hb.cell (p:=⟨w.heap.size,3,none⟩) ad];exact r4
   have ar:=itb_size x (by omega) (by omega);obtain ⟨u0,ah⟩:=nmd (itb x);rw [ah.out] at ar;have b0:=add_run (P:=Tryz.prog) ⟨#[32]⟩ u0 (by (repeat rw [ByteArray.size_append]);omega);have a0:=add_run (P:=Tryz.prog) (v) (⟨#[32]⟩++u0) (by (repeat rw [ByteArray.size_append]);omega);have ax:=itb_size y (by omega) (by omega);obtain ⟨u1,ap⟩:=nmd (itb y);rw [ap.out] at ax;have b1:=add_run (P:=Tryz.prog) ⟨#[32]⟩ u1 (by (repeat rw [ByteArray.size_append]);omega);have a1:=add_run (P:=Tryz.prog) (v++(⟨#[32]⟩++u0)) (⟨#[32]⟩++u1) (by (repeat rw [ByteArray.size_append]);omega);have ae:=add_run (P:=Tryz.prog) (v++(⟨#[32]⟩++u0)++(⟨#[32]⟩++u1)) ⟨#[10]⟩ (by (repeat rw [ByteArray.size_append]);omega);have HA:Hid (vb ((3:Int).toNat)++arg ⟨3,x,y,0⟩++⟨#[10]⟩=v++(⟨#[32]⟩++u0)++(⟨#[32]⟩++u1)++⟨#[10]⟩):=by
    unfold Hid;rw [<- HV.out,<- ah.out,<- ap.out];show vb 3++(⟨#[32]⟩++itb x++⟨#[32]⟩++itb y)++⟨#[10]⟩=_;simp only [ByteArray.append_assoc,shw_vb]
   go_wp2_with fail;refine (sItoa x _ (by omega) (by omega) ao).mono ?_;rintro e w1 ⟨rfl,ai⟩;rw [ah.out];have al:=ai;obtain ⟨⟨aB,aC,aD,aE⟩,⟨aF,aG,aH⟩,aI,aJ,au,av⟩:=aj.out _ al;clear ai;go_wp2_with fail;refine (sItoa y _ (by omega) (by omega) au).mono ?_;rintro e w2 ⟨rfl,aq⟩;rw [ap.out];have ay:=btr al aq;obtain ⟨⟨aL,aM,aN,aO⟩,⟨aP,aQ,aR⟩,aS,aT,aU,az⟩:=aj.out _ ay;clear aq;go_wp2;go_ret;exact ⟨by show _=Ending.returned (.string (vb ((3:Int).toNat)++arg ⟨3,x,y,0⟩++⟨#[10]⟩));rw [HA.out];rfl,az⟩
  ·subst p1;obtain ⟨v,HV⟩:=nmd (shw 4);obtain ⟨an,s1,s2,s3⟩:=am.at4;have s0:W.cell? ⟨4,16,none⟩=some (.string v):=by rw [<- HV.out];exact an
   clear an;have aA:v.size<=5:=by rw [<- HV.out];exact vb_size 4 (by omega)
   have slt:=am.lt;have aa:Below W.heap.size W (W.alloc (.cells #[.string v,.bool true,.bool true,.bool false] 224)):=bal _ _;have ag:=btr ak aa;obtain ⟨t0,t1,t2,t3⟩:=shape_box W v true true false 224;have ab:W.heap.size<(W.alloc (.cells #[.string v,.bool true,.bool true,.bool false] 224)).heap.size:=by simp
   have r1:(W.alloc (.cells #[.string v,.bool true,.bool true,.bool false] 224)).cell? ⟨w.heap.size,0,none⟩=some (.int .i64 4):=by rw [aa.cell (p:=⟨w.heap.size,0,none⟩) af];exact q1
   have r2:(W.alloc (.cells #[.string v,.bool true,.bool true,.bool false] 224)).cell? ⟨w.heap.size,1,none⟩=some (.int .i64 x):=by rw [aa.cell (p:=⟨w.heap.size,1,none⟩) af];exact q2
   have r3:(W.alloc (.cells #[.string v,.bool true,.bool true,.bool false] 224)).cell? ⟨w.heap.size,2,none⟩=some (.int .i64 y):=by rw [aa.cell (p:=⟨w.heap.size,2,none⟩) af];exact q3
   have r4:(W.alloc (.cells #[.string v,.bool true,.bool true,.bool false] 224)).cell? ⟨w.heap.size,3,none⟩=some (.int .u64 0):=by rw [aa.cell (p:=⟨w.heap.size,3,none⟩) af];exact q4
   have ad:=Nat.lt_trans af ab;go_upto_region 2 with fail;generalize W.alloc (.cells #[.string v,.bool true,.bool true,.bool false] 224)=V at *;clear s0 s1 s2 s3 q1 q2 q3 q4 aa ak am;have ao:=hT.below ag;have aj:Hid (∀w',Below V.heap.size V w'->(w'.cell? ⟨W.heap.size,0,none⟩=some (.string v)/\w'.cell? ⟨W.heap.size,1,none⟩=some (.bool true)/\w'.cell? ⟨W.heap.size,2,none⟩=some (.bool true)/\w'.cell? ⟨W.heap.size,3,none⟩=some (.bool false))/\(w'.cell? ⟨w.heap.size,1,none⟩=some (.int .i64 x)/\w'.cell? ⟨w.heap.size,2,none⟩=some (.int .i64 y)/\w'.cell? ⟨w.heap.size,3,none⟩=some (.int .u64 0))/\w.heap.size<w'.heap.size/\W.heap.size<w'.heap.size/\Tabs w'/\Below w.heap.size w w'):=λw' hb=>by
    refine ⟨⟨?_,?_,?_,?_⟩,⟨?_,?_,?_⟩,Nat.lt_of_lt_of_le ad hb.size,Nat.lt_of_lt_of_le ab hb.size,ao.below hb,btr ag hb⟩
    ·rw [hb.cell (p:=⟨W.heap.size,0,none⟩) ab];exact t0
    ·rw [hb.cell (p:=⟨W.heap.size,1,none⟩) ab];exact t1
    ·rw [hb.cell (p:=⟨W.heap.size,2,none⟩) ab];exact t2
    ·rw [hb.cell (p:=⟨W.heap.size,3,none⟩) ab];exact t3
    ·rw [hb.cell (p:=⟨w.heap.size,1,none⟩) ad];exact r2
    ·rw [hb.cell (p:=⟨w.heap.size,2,none⟩) ad];exact r3
    ·rw [hb.cell (p:=⟨w.heap.size,3,none⟩) ad];exact r4
   have ar:=itb_size x (by omega) (by omega);obtain ⟨u0,ah⟩:=nmd (itb x);rw [ah.out] at ar;have b0:=add_run (P:=Tryz.prog) ⟨#[32]⟩ u0 (by (repeat rw [ByteArray.size_append]);omega);have a0:=add_run (P:=Tryz.prog) (v) (⟨#[32]⟩++u0) (by (repeat rw [ByteArray.size_append]);omega);have ax:=itb_size y (by omega) (by omega);obtain ⟨u1,ap⟩:=nmd (itb y);rw [ap.out] at ax;have b1:=add_run (P:=Tryz.prog) ⟨#[32]⟩ u1 (by (repeat rw [ByteArray.size_append]);omega);have a1:=add_run (P:=Tryz.prog) (v++(⟨#[32]⟩++u0)) (⟨#[32]⟩++u1) (by (repeat rw [ByteArray.size_append]);omega);have ae:=add_run (P:=Tryz.prog) (v++(⟨#[32]⟩++u0)++(⟨#[32]⟩++u1)) ⟨#[10]⟩ (by (repeat rw [ByteArray.size_append]);omega);have HA:Hid (vb ((4:Int).toNat)++arg ⟨4,x,y,0⟩++⟨#[10]⟩=v++(⟨#[32]⟩++u0)++(⟨#[32]⟩++u1)++⟨#[10]⟩):=by
    unfold Hid;rw [<- HV.out,<- ah.out,<- ap.out];show vb 4++(⟨#[32]⟩++itb x++⟨#[32]⟩++itb y)++⟨#[10]⟩=_;simp only [ByteArray.append_assoc,shw_vb]
   go_wp2_with fail;refine (sItoa x _ (by omega) (by omega) ao).mono ?_;rintro e w1 ⟨rfl,ai⟩;rw [ah.out];have al:=ai;obtain ⟨⟨aB,aC,aD,aE⟩,⟨aF,aG,aH⟩,aI,aJ,au,av⟩:=aj.out _ al;clear ai;go_wp2_with fail;refine (sItoa y _ (by omega) (by omega) au).mono ?_;rintro e w2 ⟨rfl,aq⟩;rw [ap.out];have ay:=btr al aq;obtain ⟨⟨aL,aM,aN,aO⟩,⟨aP,aQ,aR⟩,aS,aT,aU,az⟩:=aj.out _ ay;clear aq;go_wp2;go_ret;exact ⟨by show _=Ending.returned (.string (vb ((4:Int).toNat)++arg ⟨4,x,y,0⟩++⟨#[10]⟩));rw [HA.out];rfl,az⟩
  ·subst p1;obtain ⟨v,HV⟩:=nmd (shw 5);obtain ⟨an,s1,s2,s3⟩:=am.at5;have s0:W.cell? ⟨4,20,none⟩=some (.string v):=by rw [<- HV.out];exact an
   clear an;have aA:v.size<=5:=by rw [<- HV.out];exact vb_size 5 (by omega)
   have slt:=am.lt;have aa:Below W.heap.size W (W.alloc (.cells #[.string v,.bool true,.bool true,.bool false] 224)):=bal _ _;have ag:=btr ak aa;obtain ⟨t0,t1,t2,t3⟩:=shape_box W v true true false 224;have ab:W.heap.size<(W.alloc (.cells #[.string v,.bool true,.bool true,.bool false] 224)).heap.size:=by simp
   have r1:(W.alloc (.cells #[.string v,.bool true,.bool true,.bool false] 224)).cell? ⟨w.heap.size,0,none⟩=some (.int .i64 5):=by rw [aa.cell (p:=⟨w.heap.size,0,none⟩) af];exact q1
   have r2:(W.alloc (.cells #[.string v,.bool true,.bool true,.bool false] 224)).cell? ⟨w.heap.size,1,none⟩=some (.int .i64 x):=by rw [aa.cell (p:=⟨w.heap.size,1,none⟩) af];exact q2
   have r3:(W.alloc (.cells #[.string v,.bool true,.bool true,.bool false] 224)).cell? ⟨w.heap.size,2,none⟩=some (.int .i64 y):=by rw [aa.cell (p:=⟨w.heap.size,2,none⟩) af];exact q3
   have r4:(W.alloc (.cells #[.string v,.bool true,.bool true,.bool false] 224)).cell? ⟨w.heap.size,3,none⟩=some (.int .u64 0):=by rw [aa.cell (p:=⟨w.heap.size,3,none⟩) af];exact q4
   have ad:=Nat.lt_trans af ab;go_upto_region 2 with fail;generalize W.alloc (.cells #[.string v,.bool true,.bool true,.bool false] 224)=V at *;clear s0 s1 s2 s3 q1 q2 q3 q4 aa ak am;have ao:=hT.below ag;have aj:Hid (∀w',Below V.heap.size V w'->(w'.cell? ⟨W.heap.size,0,none⟩=some (.string v)/\w'.cell? ⟨W.heap.size,1,none⟩=some (.bool true)/\w'.cell? ⟨W.heap.size,2,none⟩=some (.bool true)/\w'.cell? ⟨W.heap.size,3,none⟩=some (.bool false))/\(w'.cell? ⟨w.heap.size,1,none⟩=some (.int .i64 x)/\w'.cell? ⟨w.heap.size,2,none⟩=some (.int .i64 y)/\w'.cell? ⟨w.heap.size,3,none⟩=some (.int .u64 0))/\w.heap.size<w'.heap.size/\W.heap.size<w'.heap.size/\Tabs w'/\Below w.heap.size w w'):=λw' hb=>by
    refine ⟨⟨?_,?_,?_,?_⟩,⟨?_,?_,?_⟩,Nat.lt_of_lt_of_le ad hb.size,Nat.lt_of_lt_of_le ab hb.size,ao.below hb,btr ag hb⟩
    ·rw [hb.cell (p:=⟨W.heap.size,0,none⟩) ab];exact t0
    ·rw [hb.cell (p:=⟨W.heap.size,1,none⟩) ab];exact t1
    ·rw [hb.cell (p:=⟨W.heap.size,2,none⟩) ab];exact t2
    ·rw [hb.cell (p:=⟨W.heap.size,3,none⟩) ab];exact t3
    ·rw [hb.cell (p:=⟨w.heap.size,1,none⟩) ad];exact r2
    ·rw [hb.cell (p:=⟨w.heap.size,2,none⟩) ad];exact r3
    ·rw [hb.cell (p:=⟨w.heap.size,3,none⟩) ad];exact r4
   have ar:=itb_size x (by omega) (by omega);obtain ⟨u0,ah⟩:=nmd (itb x);rw [ah.out] at ar;have b0:=add_run (P:=Tryz.prog) ⟨#[32]⟩ u0 (by (repeat rw [ByteArray.size_append]);omega);have a0:=add_run (P:=Tryz.prog) (v) (⟨#[32]⟩++u0) (by (repeat rw [ByteArray.size_append]);omega);have ax:=itb_size y (by omega) (by omega);obtain ⟨u1,ap⟩:=nmd (itb y);rw [ap.out] at ax;have b1:=add_run (P:=Tryz.prog) ⟨#[32]⟩ u1 (by (repeat rw [ByteArray.size_append]);omega);have a1:=add_run (P:=Tryz.prog) (v++(⟨#[32]⟩++u0)) (⟨#[32]⟩++u1) (by (repeat rw [ByteArray.size_append]);omega);have ae:=add_run (P:=Tryz.prog) (v++(⟨#[32]⟩++u0)++(⟨#[32]⟩++u1)) ⟨#[10]⟩ (by (repeat rw [ByteArray.size_append]);omega);have HA:Hid (vb ((5:Int).toNat)++arg ⟨5,x,y,0⟩++⟨#[10]⟩=v++(⟨#[32]⟩++u0)++(⟨#[32]⟩++u1)++⟨#[10]⟩):=by
    unfold Hid;rw [<- HV.out,<- ah.out,<- ap.out];show vb 5++(⟨#[32]⟩++itb x++⟨#[32]⟩++itb y)++⟨#[10]⟩=_;simp only [ByteArray.append_assoc,shw_vb]
   go_wp2_with fail;refine (sItoa x _ (by omega) (by omega) ao).mono ?_;rintro e w1 ⟨rfl,ai⟩;rw [ah.out];have al:=ai;obtain ⟨⟨aB,aC,aD,aE⟩,⟨aF,aG,aH⟩,aI,aJ,au,av⟩:=aj.out _ al;clear ai;go_wp2_with fail;refine (sItoa y _ (by omega) (by omega) au).mono ?_;rintro e w2 ⟨rfl,aq⟩;rw [ap.out];have ay:=btr al aq;obtain ⟨⟨aL,aM,aN,aO⟩,⟨aP,aQ,aR⟩,aS,aT,aU,az⟩:=aj.out _ ay;clear aq;go_wp2;go_ret;exact ⟨by show _=Ending.returned (.string (vb ((5:Int).toNat)++arg ⟨5,x,y,0⟩++⟨#[10]⟩));rw [HA.out];rfl,az⟩
def Cpr (G:List Gt) (O:List Int) (n m:Nat) (w:World) (e:Ending) (w':World):Prop:=
 ((∃r,r≠0/\Cke G O n m r/\e = .returned (.tuple #[.string ⟨#[]⟩,.int .i64 r]))\/(Cke G O n m 0/\e = .returned (.tuple #[.string (otx (gtx G n) O m),.int .i64 0])))/\Below w.heap.size w w'
theorem cPrint (ag n cg G ao m co O w) (h:RdG w ag n cg G) (g:RdI w ao m co O) (hT:Tabs w) (hS:Shp w):
  Calls Tryz.prog 113 #[.agg #[.slice ag n cg,.slice ao m co]] w λe w'=>Cpr G O n m w e w':=by
 have aT:=h.cap;have aU:=g.cap;have ar:=CBox.new w ag n cg ao m co;have af:Below w.heap.size w (w.alloc (.cells #[.slice ag n cg,.slice ao m co] 89)):=bal _ _;go_enter Tryz.func113,Tryz.ntmps113;go_wp2_with fail;generalize w.alloc (.cells #[.slice ag n cg,.slice ao m co] 89)=w0 at *;refine (cCheckC _ _ _ _ _ _ _ _ _ (h.below af) (g.below af) (hS.below af)).mono ?_;rintro e w1 ⟨r,rfl,hC,ak⟩;have ae:=btr af ak;have an:=ar.below ak ar.lt;clear ar ak af;have aD:=hC.bd;by_cases hr:r=0
 ·subst hr;have HC:=hid hC;have hn:=hC.ok.1;have hm:=hC.ok.2.1;have HG:=hid hC.ok.2.2.1;have HO:=hid hC.ok.2.2.2;have aE:=Bld.new w1;have au:Below w1.heap.size w1 (w1.alloc (.cells #[.pointer none,.slice none 0 0] 35)):=bal _ _;have av:=an.below au an.lt;obtain ⟨d0,d1⟩:=av.cells;have aJ:=av.lt;have aK:=an.lt;have ai:=ae.size;clear hC aD;go_upto_region 5 with fail;generalize w1.alloc (.cells #[.pointer none,.slice none 0 0] 35)=w2 at *;go_wp2;go_loopw [18] (λv wr=>∃i:Nat,i<=n/\v = .int .i64 i/\Bld w1.heap.size w1.heap.size (gtx G i) wr/\Below w1.heap.size w1 wr) (λv _=>n-(intOf v).toNat)
  case atStart=>exact ⟨0,Nat.zero_le _,rfl,aE,au⟩
  case round=>
   clear aE au d0 d1 aJ av;obtain ⟨i,hi,rfl,hB,aa⟩:=hrel;have aj:=aa.size;by_cases hlt:i<n
   ·obtain ⟨b,o,k,x,y,z,rfl,aX,aF,hk,hx,hy,hz,c1,c2,c3,c4⟩:=(h.below (ae.trans (aa.mono ai))).one hlt;have aw:=HG.out i hlt;rw [aF.out] at aw;have al:Below wr.heap.size wr (wr.alloc (.cells #[.int .i64 k,.int .i64 x,.int .i64 y,.int .u64 z] 138)):=bal _ _;have ap:=aa.trans (al.mono aj);obtain ⟨q1,q2,q3,q4⟩:=gate_box wr k x y z 138;have aI:wr.heap.size<(wr.alloc (.cells #[.int .i64 k,.int .i64 x,.int .i64 y,.int .u64 z] 138)).heap.size:=by simp
    have ax:=hB.below al;have aq:=gtx_size HG.out hn.2 (i+1) (by omega);have HE:Hid (gtx G (i+1)=gtx G i++(vb k.toNat++arg ⟨k,x,y,z⟩++⟨#[10]⟩)):=by
     unfold Hid;rw [gtx,gln,aF.out];simp only [ByteArray.append_assoc]
    rw [HE.out] at aq;have aL:=hid aw;obtain ⟨t,Ht⟩:=nmd (gtx G i);obtain ⟨l,Hl⟩:=nmd (vb k.toNat++arg ⟨k,x,y,z⟩++⟨#[10]⟩);rw [Ht.out,Hl.out] at aq;rw [Ht.out] at ax;rw [ByteArray.size_append] at aq;clear aw;go_upto_region 8 with fail;generalize wr.alloc (.cells #[.int .i64 k,.int .i64 x,.int .i64 y,.int .u64 z] 138)=W at *;clear c1 c2 c3 c4 al aa hB;have am:=ae.trans (ap.mono ai);go_wp2_with fail;refine (cGateLine k x y z i _ aL.out (by omega) hz (hS.below am) (hT.below am)).mono ?_;rintro e w3 ⟨rfl,ab⟩;rw [Hl.out];have ay:=ax.below ab;have ad:=btr ap ab;have az:=ad.size;clear ax ab ap am q1 q2 q3 q4 aI;go_wp2_with fail;refine (sWrite _ _ t l _ ay (by omega) az).mono ?_;rintro e w4 ⟨rfl,aA,aB⟩;have ah:=ad.trans aB;go_wp2;go_roundw
    case rel=>exact ⟨i+1,by omega,by go_num,by rw [HE.out,Ht.out,Hl.out];exact aA,ah⟩
    case measure=>simp [intOf];omega
   ·have aM:i=n:=by omega
    subst aM;have aC:=an.below aa aK;obtain ⟨d0,d1⟩:=aC.cells;have aN:=aC.lt;have aq:=gtx_size HG.out hn.2 i (Nat.le_refl _);go_wp2;clear d0 d1 aN aC;obtain ⟨wo,aO⟩:∃x,x=wr:=⟨_,rfl⟩;subst aO;go_loopw [29] (λv wr=>∃j:Nat,j<=m/\v = .int .i64 j/\Bld w1.heap.size w1.heap.size (otx (gtx G i) O j) wr/\Below w1.heap.size w1 wr) (λv _=>m-(intOf v).toNat)
    case atStart=>exact ⟨0,Nat.zero_le _,rfl,hB,aa⟩
    case round=>
     clear hB aa aj;obtain ⟨j,hj,rfl,hB,aa⟩:=hrel;have aj:=aa.size;by_cases hltj:j<m
     ·obtain ⟨b2,o2,x,rfl,aV,HX,aG,aH,c5⟩:=(g.below (ae.trans (aa.mono ai))).one hltj;have aP:=otx_size (t:=gtx G i) HO.out hn.2 j hj;have hu:=itb_size x aG aH;have nl:=nl_size;have ou:=out_size;have HE:Hid (otx (gtx G i) O (j+1)=otx (gtx G i) O j++(⟨#[111,117,116,32]⟩++itb x++⟨#[10]⟩)):=by
       unfold Hid;rw [otx,HX.out]
      obtain ⟨t,Ht⟩:=nmd (otx (gtx G i) O j);obtain ⟨u,Hu⟩:=nmd (itb x);rw [Ht.out] at aP hB;rw [Hu.out] at hu;have a1:=add_run (P:=Tryz.prog) ⟨#[111,117,116,32]⟩ u (by omega);have a2:=add_run (P:=Tryz.prog) (⟨#[111,117,116,32]⟩++u) ⟨#[10]⟩ (by rw [ByteArray.size_append];omega);have aQ:(⟨#[111,117,116,32]⟩++u++⟨#[10]⟩:ByteArray).size<=30:=by rw [ByteArray.size_append,ByteArray.size_append];omega
      obtain ⟨l,Hl⟩:=nmd ((⟨#[111,117,116,32]⟩++u++⟨#[10]⟩:ByteArray));rw [Hl.out] at a2 aQ;go_wp2_with fail;refine (sItoa x _ aG aH (hT.below (ae.trans (aa.mono ai)))).mono ?_;rintro e w3 ⟨rfl,ab⟩;rw [Hu.out];have ay:=hB.below ab;have ad:=aa.trans (ab.mono aj);have az:=ad.size;clear hB ab aa c5;go_wp2_with fail;refine (sWrite _ _ t l _ ay (by omega) az).mono ?_;rintro e w4 ⟨rfl,aA,aB⟩;have ah:=ad.trans aB;go_wp2;go_roundw
      case rel=>exact ⟨j+1,by omega,by go_num,by rw [HE.out,Ht.out,Hu.out,Hl.out];exact aA,ah⟩
      case measure=>simp [intOf];omega
     ·have aR:j=m:=by omega
      subst aR;go_wp2_with fail;refine (sString _ _ _ _ hB aj).mono ?_;rintro e w3 ⟨rfl,ab⟩;have aS:=ae.trans ((aa.trans ab).mono ai);clear hB ab;go_wp2;go_ret2;exact ⟨.inr ⟨HC.out,rfl⟩,aS⟩
 ·have HC:=hid hC;have HR:=hid hr;have aW:(r != 0)=true:=by rw [bne_iff_ne];exact hr
  clear hC aD hr;go_wp2;go_ret2;exact ⟨.inl ⟨_,HR.out,HC.out,rfl⟩,ae⟩
end
end Go.Proofs.YtljlioglpaogdacGreatDoor

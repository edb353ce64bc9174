/- ValueD OutsM PiecC NumbC PieD OutsC RNumC -/
import Derived.Test.YtljlioglpaogdacGreatDoorValueC
import Derived.Deep.RegionHeld3
import Derived.Test.YtljlioglpaogdacGreatDoorToOpenC
namespace Go.Proofs.YtljlioglpaogdacGreatDoor
set_option linter.unusedVariables false
set_option maxRecDepth 100000
set_option maxHeartbeats 8000000
section
open Crm Go.RowKit
def dv (D:List Gt) (ins:List Int) (i:Nat):Int:=
 if (gt D i).k=1\/(gt D i).k=2 then lf D ins i else if (gt D i).k=6 then nm (lf D ins (gt D i).a.toNat*(gt D i).n)
 else if (gt D i).k=3 then nm (lf D ins (gt D i).a.toNat+lf D ins (gt D i).b.toNat) else if (gt D i).k=4 then nm (lf D ins (gt D i).a.toNat-lf D ins (gt D i).b.toNat) else nm (lf D ins (gt D i).a.toNat*lf D ins (gt D i).b.toNat)
theorem rValue (ag n cg D) (ao:Option Addr) (m co:Nat) (ai q ca ins) (i:Nat) (w) (h:RdG w ag n cg D) (g:Rd w ai q ca ins) (hn:n<=1000) (hi:i<n) (hk:∀j,j<i->(gt D j).k=1\/(gt D j).k=2) (hq:∀j,j<=i->(gt D j).k=1->ci D j<q) (hok:okg i (gt D i)):
  Calls Tryz.prog 121 #[.agg #[.slice ag n cg,.slice ao m co],.slice ai q ca,.int .i64 i] w λe w'=>e = .returned (.int .u64 (dv D ins i))/\Below w.heap.size w w':=by
 by_cases h12:(gt D i).k=1\/(gt D i).k=2
 ·refine (rLeaf ag n cg D ao m co ai q ca ins i w h g hn hi h12 (hq i (Nat.le_refl _))).mono ?_;rintro e w' ⟨rfl,hb⟩;exact ⟨by unfold dv;rw [if_pos h12],hb⟩
 ·have HK:=hid hk;have HQ:Hid (∀j,j<i->(gt D j).k=1->ci D j<q):=λj hj=>hq j (by omega);have an:=hid h12;clear hk hq h12;have ap:=CBox.new w ag n cg ao m co;have ar:Below w.heap.size w (w.alloc (.cells #[.slice ag n cg,.slice ao m co] 89)):=bal _ _;go_enter Tryz.func121,Tryz.ntmps121;go_upto_region 1 with fail;generalize w.alloc (.cells #[.slice ag n cg,.slice ao m co] 89)=w0 at *;obtain ⟨d0,d1⟩:=ap.cells;have aC:=ap.lt;have hh:=h;obtain ⟨b,o,k,x,y,z,rfl,aD,HG,aE,hx,hy,hz,c1,c2,c3,c4⟩:=(h.below ar).one hi;have aq:Below w0.heap.size w0 (w0.alloc (.cells #[.int .i64 k,.int .i64 x,.int .i64 y,.int .u64 z] 138)):=bal _ _;have ae:=btr ar aq;have au:=ap.below aq ap.lt;have aA:=heap_alloc_new w0 (.cells #[.int .i64 k,.int .i64 x,.int .i64 y,.int .u64 z] 138);obtain ⟨q1,q2,q3,q4⟩:=gate_box w0 k x y z 138;have ak:w0.heap.size<(w0.alloc (.cells #[.int .i64 k,.int .i64 x,.int .i64 y,.int .u64 z] 138)).heap.size:=by simp
  go_upto_region 2 with fail;generalize w0.alloc (.cells #[.int .i64 k,.int .i64 x,.int .i64 y,.int .u64 z] 138)=W at *;clear c1 c2 c3 c4 aq ar d0 d1;obtain ⟨d0,d1⟩:=au.cells;have av:=au.lt;have af:Hid (∀w',Below W.heap.size W w'->w'.cell? ⟨w.heap.size,0,none⟩=some (.slice (some ⟨b,o,none⟩) n cg)/\w'.cell? ⟨w.heap.size,1,none⟩=some (.slice ao m co)/\w'.cell? ⟨w0.heap.size,0,none⟩=some (.int .i64 k)/\w'.cell? ⟨w0.heap.size,1,none⟩=some (.int .i64 x)/\w'.cell? ⟨w0.heap.size,2,none⟩=some (.int .i64 y)/\w'.cell? ⟨w0.heap.size,3,none⟩=some (.int .u64 z)/\w.heap.size<w'.heap.size/\w0.heap.size<w'.heap.size):=λw' hb=>by
   refine ⟨by rw [hb.cell (p:=⟨w.heap.size,0,none⟩) av];exact d0,by rw [hb.cell (p:=⟨w.heap.size,1,none⟩) av];exact d1,?_,?_,?_,?_,Nat.lt_of_lt_of_le av hb.size,Nat.lt_of_lt_of_le ak hb.size⟩
   ·rw [hb.cell (p:=⟨w0.heap.size,0,none⟩) ak];exact q1
   ·rw [hb.cell (p:=⟨w0.heap.size,1,none⟩) ak];exact q2
   ·rw [hb.cell (p:=⟨w0.heap.size,2,none⟩) ak];exact q3
   ·rw [hb.cell (p:=⟨w0.heap.size,3,none⟩) ak];exact q4
  have ab:Hid (∀w',Below W.heap.size W w'->RdG w' (some ⟨b,o,none⟩) n cg D/\Rd w' ai q ca ins):=λw' hb=>⟨(h.below ae).below hb,(g.below ae).below hb⟩;have aa:Below W.heap.size W W.drew:=(Below.refl _ _).drew;have ad:=lf_bd D ins;clear aA hh au ap;rw [HG.out] at hok;have aj:k≠1/\k≠2:=by have:=an.out;rw [HG.out] at this;simp only at this;omega
  rcases hok with ⟨e,_⟩ | ⟨e,_⟩ | ⟨e,aw,_⟩ | ⟨e,aw,aB,_⟩
  ·exact absurd e aj.1
  ·exact absurd e aj.2
  ·obtain rfl:k=6:=e;simp only at aw;obtain ⟨p,rfl⟩:∃p:Nat,x=p:=⟨x.toNat,by omega⟩;have ah:p<i:=by omega
   have HV:Hid (dv D ins i=nm (lf D ins p*z)):=by
    unfold Hid dv;rw [if_neg an.out,if_pos (by rw [HG.out]),HG.out];rfl
   have ax:=ad p;clear ad aj;go_wp2;go_region_law (first | (go_simp;go_at_call 121;refine (rLeaf _ _ _ _ _ _ _ _ _ _ _ p _ (ab.out _ aa).1 (ab.out _ aa).2 hn (by omega) (HK.out p ah) (HQ.out p ah)).mono ?_;rintro en w1 ⟨rfl,hb⟩;have aa:=btr aa hb;obtain ⟨e1,e2,e3,e4,e5,e6,e7,e8⟩:=af.out _ aa;clear hb) | (go_simp;go_at_call 160;refine (rMul _ _ _ (by omega) (by omega) (by omega) (by omega)).mono ?_;rintro en w' ⟨rfl,rfl⟩))
   all_goals
    have al:=btr ae aa;go_wp2;go_ret;rw [HV.out];exact ⟨rfl,al⟩
  ·simp only at e aw aB;obtain ⟨p,rfl⟩:∃p:Nat,x=p:=⟨x.toNat,by omega⟩;obtain ⟨r,rfl⟩:∃r:Nat,y=r:=⟨y.toNat,by omega⟩;have ah:p<i:=by omega
   have am:r<i:=by omega
   rcases e with rfl | rfl | rfl
   ·have HV:Hid (dv D ins i=nm (lf D ins p+lf D ins r)):=by
     unfold Hid dv;rw [if_neg an.out,if_neg (by rw [HG.out];simp only;omega),if_pos (by rw [HG.out]),HG.out];rfl
    have ax:=ad p;have ay:=ad r;have az:=nm_bd (-lf D ins r);clear ad aj;go_wp2;go_region_held3 (λw'=>w'.cell? ⟨w.heap.size,0,none⟩=some (.slice (some ⟨b,o,none⟩) n cg)/\w'.cell? ⟨w.heap.size,1,none⟩=some (.slice ao m co)/\w'.cell? ⟨w0.heap.size,1,none⟩=some (.int .i64 (p:Int))/\w'.cell? ⟨w0.heap.size,2,none⟩=some (.int .i64 (r:Int))) (go_keep) (first | (go_at_call_of 121 (Value.int .i64 (p:Int));refine (rLeaf _ _ _ _ _ _ _ _ _ _ _ p _ (ab.out _ aa).1 (ab.out _ aa).2 hn (by omega) (HK.out p ah) (HQ.out p ah)).mono ?_;rintro en w1 ⟨rfl,hb⟩;have aa:=btr aa hb;obtain ⟨e1,e2,e3,e4,e5,e6,e7,e8⟩:=af.out _ aa;clear hb) | (go_at_call_of 121 (Value.int .i64 (r:Int));refine (rLeaf _ _ _ _ _ _ _ _ _ _ _ r _ (ab.out _ aa).1 (ab.out _ aa).2 hn (by omega) (HK.out r am) (HQ.out r am)).mono ?_;rintro en w2 ⟨rfl,hb⟩;have aa:=btr aa hb;obtain ⟨f1,f2,f3,f4,f5,f6,f7,f8⟩:=af.out _ aa;clear hb))
    all_goals
     have al:=btr ae aa;go_wp2_with (go_at_call 159;refine (rAdd _ _ _ (by omega) (by omega) (by omega) (by omega)).mono ?_;rintro e w' ⟨rfl,hw⟩;have hw:=hw.symm;subst hw);go_ret;rw [HV.out];exact ⟨rfl,al⟩
   ·have HV:Hid (dv D ins i=nm (lf D ins p+nm (-lf D ins r))):=by
     unfold Hid dv;rw [if_neg an.out,if_neg (by rw [HG.out];simp only;omega),if_neg (by rw [HG.out];simp only;omega),if_pos (by rw [HG.out]),HG.out,nm_addr];rfl
    have ax:=ad p;have ay:=ad r;have az:=nm_bd (-lf D ins r);clear ad aj;go_wp2;go_region_held3 (λw'=>w'.cell? ⟨w.heap.size,0,none⟩=some (.slice (some ⟨b,o,none⟩) n cg)/\w'.cell? ⟨w.heap.size,1,none⟩=some (.slice ao m co)/\w'.cell? ⟨w0.heap.size,1,none⟩=some (.int .i64 (p:Int))/\w'.cell? ⟨w0.heap.size,2,none⟩=some (.int .i64 (r:Int))) (go_keep) (first | (go_at_call_of 121 (Value.int .i64 (p:Int));refine (rLeaf _ _ _ _ _ _ _ _ _ _ _ p _ (ab.out _ aa).1 (ab.out _ aa).2 hn (by omega) (HK.out p ah) (HQ.out p ah)).mono ?_;rintro en w1 ⟨rfl,hb⟩;have aa:=btr aa hb;obtain ⟨e1,e2,e3,e4,e5,e6,e7,e8⟩:=af.out _ aa;clear hb) | (go_at_call_of 121 (Value.int .i64 (r:Int));refine (rLeaf _ _ _ _ _ _ _ _ _ _ _ r _ (ab.out _ aa).1 (ab.out _ aa).2 hn (by omega) (HK.out r am) (HQ.out r am)).mono ?_;rintro en w2 ⟨rfl,hb⟩;have aa:=btr aa hb;obtain ⟨f1,f2,f3,f4,f5,f6,f7,f8⟩:=af.out _ aa;clear hb))
    all_goals
     have al:=btr ae aa;go_wp2_with (first | (go_at_call 163;refine (rNeg _ _ (by omega) (by omega)).mono ?_;rintro e w' ⟨rfl,hw⟩;have hw:=hw.symm;subst hw) | (go_at_call 159;refine (rAdd _ _ _ (by omega) (by omega) (by omega) (by omega)).mono ?_;rintro e w' ⟨rfl,hw⟩;have hw:=hw.symm;subst hw));go_ret;rw [HV.out];exact ⟨rfl,al⟩
   ·have HV:Hid (dv D ins i=nm (lf D ins p*lf D ins r)):=by
     unfold Hid dv;rw [if_neg an.out,if_neg (by rw [HG.out];simp only;omega),if_neg (by rw [HG.out];simp only;omega),if_neg (by rw [HG.out];simp only;omega),HG.out];rfl
    have ax:=ad p;have ay:=ad r;have az:=nm_bd (-lf D ins r);clear ad aj;go_wp2;go_region_held3 (λw'=>w'.cell? ⟨w.heap.size,0,none⟩=some (.slice (some ⟨b,o,none⟩) n cg)/\w'.cell? ⟨w.heap.size,1,none⟩=some (.slice ao m co)/\w'.cell? ⟨w0.heap.size,1,none⟩=some (.int .i64 (p:Int))/\w'.cell? ⟨w0.heap.size,2,none⟩=some (.int .i64 (r:Int))) (go_keep) (first | (go_at_call_of 121 (Value.int .i64 (p:Int));refine (rLeaf _ _ _ _ _ _ _ _ _ _ _ p _ (ab.out _ aa).1 (ab.out _ aa).2 hn (by omega) (HK.out p ah) (HQ.out p ah)).mono ?_;rintro en w1 ⟨rfl,hb⟩;have aa:=btr aa hb;obtain ⟨e1,e2,e3,e4,e5,e6,e7,e8⟩:=af.out _ aa;clear hb) | (go_at_call_of 121 (Value.int .i64 (r:Int));refine (rLeaf _ _ _ _ _ _ _ _ _ _ _ r _ (ab.out _ aa).1 (ab.out _ aa).2 hn (by omega) (HK.out r am) (HQ.out r am)).mono ?_;rintro en w2 ⟨rfl,hb⟩;have aa:=btr aa hb;obtain ⟨f1,f2,f3,f4,f5,f6,f7,f8⟩:=af.out _ aa;clear hb))
    all_goals
     have al:=btr ae aa;go_wp2_with (go_at_call 160;refine (rMul _ _ _ (by omega) (by omega) (by omega) (by omega)).mono ?_;rintro e w' ⟨rfl,hw⟩;have hw:=hw.symm;subst hw);go_ret;rw [HV.out];exact ⟨rfl,al⟩
end
section
open Crm Go.Maps Go.RowKit
def gcs (G:List Gt):List Value:=G.flatMap λg=>[.int .i64 g.k,.int .i64 g.a,.int .i64 g.b,.int .u64 g.n]
theorem gcs_len:∀G:List Gt,(gcs G).length=G.length*4
 | []=>rfl
 | g :: G=>by
  have:=gcs_len G
  have e:gcs (g :: G) = [.int .i64 g.k,.int .i64 g.a,.int .i64 g.b,.int .u64 g.n]++gcs G:=by simp [gcs]
  rw [e,List.length_append,this,List.length_cons]
  simp
  omega
theorem gcs_get:∀(G:List Gt) (i:Nat),i<G.length->(gcs G)[i*4]? = some (.int .i64 (gt G i).k)/\(gcs G)[i*4+1]? = some (.int .i64 (gt G i).a)/\(gcs G)[i*4+2]? = some (.int .i64 (gt G i).b)/\(gcs G)[i*4+3]? = some (.int .u64 (gt G i).n)
 | [],i,h=>by simp at h
 | p :: l,0,_=>⟨rfl,rfl,rfl,rfl⟩
 | p :: l,i+1,h=>by
  have:=gcs_get l i (by simpa using h)
  have e1:(i+1)*4=i*4+1+1+1+1:=by omega
  rw [e1]
  exact this
theorem gcs_set:∀(G:List Gt) (q:Nat) (k x y z:Int),((((gcs G).set (q*4) (.int .i64 k)).set (q*4+1) (.int .i64 x)).set (q*4+2) (.int .i64 y)).set (q*4+3) (.int .u64 z)=gcs (G.set q ⟨k,x,y,z⟩)
 | [],q,k,x,y,z=>by simp [gcs]
 | p :: l,0,k,x,y,z=>rfl
 | p :: l,q+1,k,x,y,z=>by
  have:=gcs_set l q k x y z
  have e1:(q+1)*4=q*4+1+1+1+1:=by omega
  rw [e1]
  show _ :: _ :: _ :: _ :: ((((gcs l).set (q*4) (.int .i64 k)).set (q*4+1) (.int .i64 x)).set (q*4+2) (.int .i64 y)).set (q*4+3) (.int .u64 z)=_
  rw [this]
  rfl
theorem gcs_one (G:List Gt):∀u ∈ gcs G,u.oneCell'=true:=λu hu=>by
 unfold gcs at hu
 obtain ⟨p,_,hp⟩:=List.mem_flatMap.1 hu
 simp at hp
 rcases hp with rfl | rfl | rfl | rfl <;> rfl
theorem own_setZ {w:World} {B n c g z:Nat} {E:TypeId} {xs:List Value} (h:w.ownsRow B E z (.slice (some ⟨g,0,none⟩) n c) n xs) (i:Nat) (u:Value):(w.setCell ⟨g,i,none⟩ u).ownsRow B E z (.slice (some ⟨g,0,none⟩) n c) n (xs.set i u):=by
 refine ⟨by rw [List.length_set];exact h.1,.inr ?_⟩
 rcases h.2 with ⟨e,_⟩ | ⟨g',aa,ab,e,hb,hg,h1,h2,hs,ht⟩
 ·simp at e
 ·simp only [Value.slice.injEq,Option.some.injEq,Addr.mk.injEq,and_true,true_and] at e;obtain ⟨rfl,rfl⟩:=e;refine ⟨g,c,_,rfl,hb,heap_setCell_same w g i _ _ _ hg,h1,h2,by simpa using hs,?_⟩
  rw [<- ht];simp [List.take_set]
theorem own_frozenZ {w:World} {B n c g z:Nat} {E:TypeId} {xs:List Value} (h:w.ownsRow B E z (.slice (some ⟨g,0,none⟩) n c) n xs) (i:Nat):w.frozen? ⟨g,i,none⟩=false:=by
 rcases h.2 with ⟨e,_⟩ | ⟨g',aa,ab,e,hb,hg,_⟩
 ·simp at e
 ·simp only [Value.slice.injEq,Option.some.injEq,Addr.mk.injEq,and_true,true_and] at e;obtain ⟨rfl,rfl⟩:=e;exact frozen_of_row w g i _ _ hg
theorem RdG.own {w:World} {base n c g:Nat} {E:TypeId} {G:List Gt} (h:w.ownsRow base E 4 (.slice (some ⟨g,0,none⟩) n c) n (gcs G)) (hl:G.length=n) (hb:∀i,i<n->(-9223372036854775808<=(gt G i).k/\(gt G i).k<=9223372036854775807)/\(-9223372036854775808<=(gt G i).a/\(gt G i).a<=9223372036854775807)/\(-9223372036854775808<=(gt G i).b/\(gt G i).b<=9223372036854775807)/\0<=(gt G i).n/\(gt G i).n<=18446744073709551615):RdG w (some ⟨g,0,none⟩) n c G:=by
 rcases h.2 with ⟨e,_⟩ | ⟨g',aa,ab,e,ad,hg,h1,h2,hs,ht⟩
 ·simp at e
 ·simp only [Value.slice.injEq,Option.some.injEq,Addr.mk.injEq,and_true,true_and] at e;obtain ⟨rfl,rfl⟩:=e;refine ⟨hl,h1,h2,by simp,hb,λx hx i hi=>?_⟩
  obtain rfl:=Option.some.inj hx;obtain ⟨e1,e2,e3,e4⟩:=gcs_get G i (by omega);exact ⟨h.cells (g:=g) rfl _ _ e1,h.cells (g:=g) rfl _ _ e2,h.cells (g:=g) rfl _ _ e3,h.cells (g:=g) rfl _ _ e4⟩
theorem own_lt {w:World} {base n c g z:Nat} {E:TypeId} {xs:List Value} (h:w.ownsRow base E z (.slice (some ⟨g,0,none⟩) n c) n xs):base<=g/\g<w.heap.size:=h.lt g rfl
theorem gcs_take:∀(G:List Gt) (k:Nat),gcs (G.take k)=(gcs G).take (k*4)
 | [],k=>by simp [gcs]
 | g :: G,0=>by simp [gcs]
 | g :: G,k+1=>by
  have:=gcs_take G k
  have e1:(k+1)*4=k*4+1+1+1+1:=by omega
  rw [e1]
  show _ :: _ :: _ :: _ :: gcs (G.take k)=_ :: _ :: _ :: _ :: (gcs G).take (k*4)
  rw [this]
theorem RdG.news {w} {b o:Nat} {n c} {k:Nat} {G} (h:RdG w (some ⟨b,o,none⟩) n c G) (hk:k<=n):∀j u,(gcs (G.take k))[j]? = some u->w.cell? ((⟨b,o,none⟩:Addr).add j)=some u:=by
 intro j u hu;rw [gcs_take] at hu;have hj:j<k*4:=by
  rcases Nat.lt_or_ge j (k*4) with e | e
  ·exact e
  ·rw [List.getElem?_eq_none (by simp;omega)] at hu;cases hu
 rw [List.getElem?_take_of_lt hj] at hu;have hl:=h.len;obtain ⟨e1,e2,e3,e4⟩:=gcs_get G (j/4) (by omega);obtain ⟨c1,c2,c3,c4⟩:=h.cell _ rfl (j/4) (by omega);have hr:j=j/4*4\/j=j/4*4+1\/j=j/4*4+2\/j=j/4*4+3:=by omega
 rcases hr with hr | hr | hr | hr
 ·rw [hr,e1] at hu;rw [hr,c1];exact hu
 ·rw [hr,e2] at hu;rw [hr,c2];exact hu
 ·rw [hr,e3] at hu;rw [hr,c3];exact hu
 ·rw [hr,e4] at hu;rw [hr,c4];exact hu
theorem own_atZ {w:World} {base n z:Nat} {E:TypeId} {v:Value} {xs:List Value} (h:w.ownsRow base E z v n xs) (hn:0<n):∃g c,v = .slice (some ⟨g,0,none⟩) n c/\base<=g/\g<w.heap.size/\n<=c/\c<=maxLen:=by
 rcases h.2 with ⟨_,rfl⟩ | ⟨g,aa,ab,rfl,hb,hg,h1,h2,_⟩
 ·omega
 ·exact ⟨g,aa,rfl,hb,(Array.getElem?_eq_some_iff.1 hg).1,h1,h2⟩
theorem CBox.apart {w g} {g' n' c':Nat} {ag n cg ao m co} {B z:Nat} {E:TypeId} {xs:List Value} (h:CBox w g ag n cg ao m co) (ho:w.ownsRow B E z (.slice (some ⟨g',0,none⟩) n' c') n' xs) (hE:E≠89):g'≠g:=by
 rcases ho.2 with ⟨e,_⟩ | ⟨aa,ab,ad,e,_,hg,_⟩
 ·simp at e
 ·simp only [Value.slice.injEq,Option.some.injEq,Addr.mk.injEq,and_true,true_and] at e;obtain ⟨rfl,rfl⟩:=e;intro e;subst e;unfold CBox at h;rw [hg] at h;simp only [Option.some.injEq,Obj.cells.injEq] at h;exact hE h.2.1
theorem CBox.grown {w} {w':World} {g} {r:Option Nat} {ag n cg ao m co} (h:CBox w g ag n cg ao m co) (hg:w.grownBy w' r) (hr:some g≠r):CBox w' g ag n cg ao m co:=by
 unfold CBox;rw [hg.block g h.lt hr];exact h
theorem map_apart {w:World} {P:Program} {k:TypeId} {R:Value->Option (DataW Unit×List MemPlace)} {b nn:Nat} {D:DataW Unit} {g' n' c' B z:Nat} {E:TypeId} {xs:List Value} (h:w.ownsMap P k R b nn D) (ho:w.ownsRow B E z (.slice (some ⟨g',0,none⟩) n' c') n' xs):g'≠b:=by
 obtain ⟨es,aa,hb,_⟩:=h;rcases ho.2 with ⟨e,_⟩ | ⟨ab,ad,ae,e,_,hg,_⟩
 ·simp at e
 ·simp only [Value.slice.injEq,Option.some.injEq,Addr.mk.injEq,and_true,true_and] at e;obtain ⟨rfl,rfl⟩:=e;intro e;subst e;rw [hg] at hb;simp at hb
def dgj (G:List Gt) (ins:List Int) (n j:Nat):List Gt:=(List.range n).map λp=>if p<j/\(gt G p).k≠1 then ⟨2,0,0,wi G ins p⟩ else gt G p
theorem dgj_len (G:List Gt) (ins:List Int) (n j:Nat):(dgj G ins n j).length=n:=by simp [dgj]
theorem dgj_gt (G:List Gt) (ins:List Int) {n p:Nat} (j:Nat) (h:p<n):gt (dgj G ins n j) p=if p<j/\(gt G p).k≠1 then ⟨2,0,0,wi G ins p⟩ else gt G p:=by
 unfold gt;simp [dgj,h];rfl
theorem dgj_zero (G:List Gt) (ins:List Int) {n:Nat} (h:n<=G.length):G.take n=dgj G ins n 0:=by
 apply List.ext_getElem?;intro i;by_cases hi:i<n
 ·rw [List.getElem?_take_of_lt hi];simp [dgj,hi,gt,List.getElem?_eq_getElem (show i<G.length by omega)]
 ·rw [List.getElem?_eq_none (by simp;omega),List.getElem?_eq_none (by rw [dgj_len];omega)]
theorem dgj_in (G:List Gt) (ins:List Int) (n j:Nat) (h:(gt G j).k=1):dgj G ins n j=dgj G ins n (j+1):=by
 unfold dgj;refine List.map_congr_left λp _=>?_;by_cases e:p=j
 ·subst e;simp [h]
 ·have:(p<j+1)=(p<j):=by apply propext;omega
  simp only [this]
theorem dgj_set (G:List Gt) (ins:List Int) {n j:Nat} (h:(gt G j).k≠1):(dgj G ins n j).set j ⟨2,0,0,wi G ins j⟩=dgj G ins n (j+1):=by
 apply List.ext_getElem?;intro q;rw [List.getElem?_set];by_cases hq:q<n
 ·by_cases e:j=q
  ·subst e;simp [dgj,hq,h]
  ·have:(q<j+1)=(q<j):=by apply propext;omega
   simp [dgj,hq,e,this]
 ·by_cases e:j=q
  ·subst e;simp [dgj,hq]
  ·simp [dgj,hq,e]
def mpd (V:Nat->Int):Nat->DataW Unit
 | 0=>.map []
 | k+1=>(mpd V k).put (.int .i64 (k:Int)) (.lit (.int .u64 (V k)))
theorem mpd_map (V:Nat->Int):∀k,IsMap (mpd V k)
 | 0=>⟨[],rfl⟩
 | k+1=>by
  obtain ⟨es,e⟩:=mpd_map V k
  rw [mpd,e]
  exact ⟨_,rfl⟩
theorem mpd_at (V:Nat->Int) {j:Nat} (z:DataW Unit):∀k,j<k->(mpd V k).atKey (.int .i64 (j:Int)) z = .lit (.int .u64 (V j))
 | 0,h=>by omega
 | k+1,h=>by
  rw [mpd]
  by_cases e:j=k
  ·subst e
   exact atKey_put_same (mpd_map V j) (show WideAt.IsKeyLit (.int .i64 (j:Int)) from trivial) _ _
  ·rw [atKey_put_other (λe'=>by simp only [Lit.int.injEq,true_and] at e';omega)]
   exact mpd_at V z k (by omega)
theorem dgj_ci (G:List Gt) (ins:List Int) {n i:Nat} (hi:i<n):∀j,j<=i->ci (dgj G ins n i) j=ci G j
 | 0,_=>rfl
 | j+1,h=>by
  have ih:=dgj_ci G ins hi j (by omega)
  have hg:=dgj_gt G ins (n:=n) (p:=j) i (by omega)
  by_cases e:(gt G j).k=1
  ·rw [ci_in e,ci_in (by rw [hg,if_neg (λh=>h.2 e)];exact e),ih]
  ·rw [ci_no e,ci_no (by rw [hg,if_pos ⟨by omega,e⟩];simp only;omega),ih]
theorem dgj_lf {G:List Gt} {ins:List Int} {n i j:Nat} (hi:i<n) (hj:j<i):((gt (dgj G ins n i) j).k=1\/(gt (dgj G ins n i) j).k=2)/\lf (dgj G ins n i) ins j=wi G ins j:=by
 have hg:=dgj_gt G ins (n:=n) (p:=j) i (by omega);by_cases e:(gt G j).k=1
 ·rw [if_neg (λh=>h.2 e)] at hg;unfold lf;rw [hg,if_pos e,dgj_ci G ins hi j (by omega),wi_in e];exact ⟨.inl e,rfl⟩
 ·rw [if_pos ⟨hj,e⟩] at hg;unfold lf;rw [hg];refine ⟨.inr rfl,?_⟩
  rw [if_neg (by simp only;omega)];have:=wi_bd G ins j;exact nm_small this.1 this.2
theorem dgj_dv {G:List Gt} {ins:List Int} {n i:Nat} (hi:i<n) (hok:okg i (gt G i)):gt (dgj G ins n i) i=gt G i/\dv (dgj G ins n i) ins i=wi G ins i:=by
 have hg:=dgj_gt G ins (n:=n) (p:=i) i hi;rw [if_neg (λh=>by omega)] at hg;refine ⟨hg,?_⟩
 unfold dv;rw [hg];rcases hok with ⟨e,_⟩ | ⟨e,_⟩ | ⟨e,hx,_⟩ | ⟨e,hx,hy,_⟩
 ·rw [if_pos (.inl e)];unfold lf;rw [hg,if_pos e,dgj_ci G ins hi i (Nat.le_refl _),wi_in e]
 ·rw [if_pos (.inr e)];unfold lf;rw [hg,if_neg (by omega),wi_const e]
 ·obtain ⟨p,hp⟩:∃p:Nat,(gt G i).a=p:=⟨(gt G i).a.toNat,by omega⟩;rw [if_neg (by omega),if_pos e,hp,Int.toNat_natCast,(dgj_lf hi (show p<i by omega)).2,wi_scale e hp (by omega)]
 ·obtain ⟨p,hp⟩:∃p:Nat,(gt G i).a=p:=⟨(gt G i).a.toNat,by omega⟩;obtain ⟨r,hr⟩:∃r:Nat,(gt G i).b=r:=⟨(gt G i).b.toNat,by omega⟩;rw [if_neg (by omega),if_neg (by omega),hp,hr,Int.toNat_natCast,Int.toNat_natCast,(dgj_lf hi (show p<i by omega)).2,(dgj_lf hi (show r<i by omega)).2];rcases e with e | e | e
  ·rw [if_pos e,wi_add e hp (by omega) hr (by omega)]
  ·rw [if_neg (by omega),if_pos e,wi_sub e hp (by omega) hr (by omega)]
  ·rw [if_neg (by omega),if_neg (by omega),wi_mul e hp (by omega) hr (by omega)]
end
section
open Crm Go.RowKit
def mt:ByteArray:=⟨#[]⟩
def strs (L:List ByteArray):List Value:=L.map Value.string
theorem strs_len (L:List ByteArray):(strs L).length=L.length:=by simp [strs]
def pcs (s:ByteArray) (b:Int):Nat->List ByteArray
 | 0=>[mt]
 | k+1=>if bt s k=b then pcs s b k ++ [mt] else (pcs s b k).set ((pcs s b k).length-1) ((pcs s b k).getD ((pcs s b k).length-1) mt++s.extract k (k+1))
theorem pcs_yes {s:ByteArray} {b:Int} {k:Nat} (h:bt s k=b):pcs s b k ++ [mt]=pcs s b (k+1):=by rw [pcs,if_pos h]
theorem pcs_no {s:ByteArray} {b:Int} {k:Nat} (h:bt s k≠b):(pcs s b k).set ((pcs s b k).length-1) ((pcs s b k).getD ((pcs s b k).length-1) mt++s.extract k (k+1))=pcs s b (k+1):=by rw [pcs,if_neg h]
theorem pcs_len (s:ByteArray) (b:Int):∀k,1<=(pcs s b k).length/\(pcs s b k).length<=k+1
 | 0=>by simp [pcs]
 | k+1=>by
  have:=pcs_len s b k
  rw [pcs]
  split
  ·simp;omega
  ·simp;omega
theorem pcs_size (s:ByteArray) (b:Int):∀k,∀x ∈ pcs s b k,x.size<=k
 | 0,x,hx=>by simp [pcs] at hx;subst hx;exact Nat.le_refl 0
 | k+1,x,hx=>by
  have ih:=pcs_size s b k
  rw [pcs] at hx
  split at hx
  ·rcases List.mem_append.1 hx with h | h
   ·have:=ih x h;omega
   ·simp at h;subst h;exact Nat.zero_le _
  ·rcases List.mem_or_eq_of_mem_set hx with h | rfl
   ·have:=ih x h;omega
   ·have hl:=pcs_len s b k
    have h1:(pcs s b k).getD ((pcs s b k).length-1) mt ∈ pcs s b k:=by
     rw [List.getD_eq_getElem?_getD,List.getElem?_eq_getElem (by omega)];exact List.getElem_mem _
    have h2:=ih _ h1;rw [ByteArray.size_append,ByteArray.size_extract];omega
theorem infoS:(Tryz.prog.info? 9).map (λi=>(i.zero,i.size,i.bytes))=some (some (.string ⟨#[]⟩),1,16):=by kernel_rfl
theorem own_new1 (w:World) (u:Value) (E:TypeId):(w.alloc (.cells #[u] E)).ownsRow w.heap.size E 1 (.slice (some ⟨w.heap.size,0,none⟩) 1 1) 1 [u]:=
 ⟨rfl,.inr ⟨w.heap.size,1,#[u],rfl,Nat.le_refl _,heap_alloc_new w _,Nat.le_refl _,by decide,rfl,rfl⟩⟩
theorem own_cellZ {w:World} {B n c g z:Nat} {E:TypeId} {xs:List Value} (h:w.ownsRow B E z (.slice (some ⟨g,0,none⟩) n c) n xs) {i:Nat} {u:Value} (hi:xs[i]? = some u):w.cell? ⟨g,i,none⟩=some u:=by
 have:=h.cells (g:=g) rfl _ _ hi;rwa [Addr.add_lit,Nat.zero_add] at this
theorem rPieces (s:ByteArray) (b:Int) (w) (hs:s.size<=100000) (hb0:0<=b) (hb1:b<=255):
  Calls Tryz.prog 26 #[.string s,.int .u8 b] w λe w'=>∃v,e = .returned v/\w'.ownsRow w.heap.size 9 1 v (pcs s b s.size).length (strs (pcs s b s.size))/\Below w.heap.size w w':=by
 have ai:(w.alloc (.cells #[.string ⟨#[]⟩] 9)).ownsRow w.heap.size 9 1 (.slice (some ⟨w.heap.size,0,none⟩) 1 1) (pcs s b 0).length (strs (pcs s b 0)):=own_new1 w _ _;have ae:=(Below.refl w.heap.size w).alloc (Nat.le_refl _) (.cells #[.string ⟨#[]⟩] 9);go_enter Tryz.func26,Tryz.ntmps26;go_wp2;go_loopw [5,6] (λv i wr=>∃k:Nat,k<=s.size/\i = .int .i64 k/\wr.ownsRow w.heap.size 9 1 v (pcs s b k).length (strs (pcs s b k))/\Below w.heap.size w wr) (λ_ i _=>s.size-(intOf i).toNat)
 case atStart=>exact ⟨0,Nat.zero_le _,rfl,ai,ae⟩
 case round=>
  clear ai ae;obtain ⟨k,hk,rfl,aa,ab⟩:=hrel;have aj:=ab.size;by_cases hlt:k<s.size
  ·have hl:=pcs_len s b k;obtain ⟨g,c,rfl,hg,av,am,an⟩:=own_atZ aa hl.1;obtain ⟨x,HX⟩:=nmd (bt s k);have hx:=bt_bd s k;have ao:=λw=>bt_run (P:=Tryz.prog) Tryz.underlying9 s hlt w;rw [HX.out] at hx ao;unfold maxLen at an;by_cases hxb:x=b
   ·have HE:Hid (pcs s b k ++ [mt]=pcs s b (k+1)):=pcs_yes (by rw [HX.out];exact hxb);obtain ⟨m,HM⟩:=nmd ((pcs s b k).length);have af:Hid ((pcs s b (k+1)).length=m+1):=by unfold Hid;rw [<- HE.out,List.length_append,HM.out];rfl
    have HS:Hid (strs (pcs s b k) ++ [.string ⟨#[]⟩]=strs (pcs s b (k+1))):=by unfold Hid;rw [<- HE.out];simp [strs,mt]
    rw [HM.out] at aa hl ⊢;subst hxb;go_wp2_with (at_builtin;refine wpList_appV Tryz.underlying24 infoS rfl (by omega) _ rfl _ _ rfl w.heap.size _ _ _ rfl aa (.string ⟨#[]⟩) rfl rfl (by omega) aj ?_;intro v2 w2 ad ag _;rw [HS.out] at ad;have ap:=ab.grown ag aj (λp hp=>(aa.lt p hp).1);clear ag aa ab);go_roundw
    case rel=>exact ⟨k+1,by omega,by go_num,by rw [af.out];exact ad,ap⟩
    case measure=>simp [intOf];omega
   ·have HE:=pcs_no (s:=s) (b:=b) (k:=k) (by rw [HX.out];exact hxb);obtain ⟨m,HM⟩:∃m,Hid ((pcs s b k).length=m+1):=⟨(pcs s b k).length-1,by unfold Hid;omega⟩;obtain ⟨y,HY⟩:=nmd ((pcs s b k).getD m mt);obtain ⟨z,HZ⟩:=nmd (s.extract k (k+1));rw [HM.out,Nat.add_sub_cancel,HY.out,HZ.out] at HE;have af:Hid ((pcs s b (k+1)).length=m+1):=by unfold Hid;rw [<- HE,List.length_set,HM.out]
    have HS:Hid ((strs (pcs s b k)).set m (.string (y++z))=strs (pcs s b (k+1))):=by unfold Hid;rw [<- HE,strs,strs,List.map_set]
    have ak:(strs (pcs s b k))[m]? = some (.string y):=by
     rw [strs,List.getElem?_map,List.getElem?_eq_getElem (by have:=HM.out;omega),Option.map_some,<- HY.out,List.getD_eq_getElem?_getD,List.getElem?_eq_getElem (by have:=HM.out;omega)];rfl
    have al:y ∈ pcs s b k:=by
     rw [<- HY.out,List.getD_eq_getElem?_getD,List.getElem?_eq_getElem (by have:=HM.out;omega)];exact List.getElem_mem _
    have aw:=pcs_size s b k y al;have ax:z.size<=1:=by rw [<- HZ.out,ByteArray.size_extract];omega
    rw [HM.out] at aa hl am ⊢;have ar:=own_cellZ aa ak;have ay:=own_frozenZ aa m;have ah:=own_setZ aa m (.string (y++z));rw [HS.out] at ah;have HO:=hid ah;have HB:Hid (Below w.heap.size w (wr.setCell ⟨g,m,none⟩ (.string (y++z)))):=ab.setCell (p:=⟨g,m,none⟩) hg _;have hsl:∀w,(Instr.slice 9 (.string s) (some (.int .i64 (k:Int))) (some (.int .i64 ((k:Int)+1))) none).run Tryz.prog w = .ok (.string z) w:=λw=>by
     rw [run_slice_string_if w 9 s .i64 .i64 _ _ Tryz.underlying9,if_pos ⟨by omega,by omega⟩,if_pos ⟨by omega,by omega⟩,<- HZ.out];rfl
    have az:(0:Int)<=(m:Int):=by omega
    have au:(x==b)=false:=by rw [beq_eq_false_iff_ne];exact hxb
    clear ah aa ab HE ak al hxb;go_wp2;go_region
    all_goals
     go_wp2;exact ⟨⟨k+1,by omega,by go_num,by rw [af.out];exact HO.out,HB.out.drew⟩,by simp [intOf];omega⟩
  ·have aq:k=s.size:=by omega
   subst aq;go_wp2;go_ret;exact ⟨_,rfl,aa,ab⟩
def tx (L:List ByteArray) (i:Nat):ByteArray:=L.getD i mt
structure RdT (w:World) (a:Option Addr) (n c:Nat) (L:List ByteArray):Prop where
 len:L.length=n
 cap:n<=c
 max:c<=maxLen
 nil:a=none->c=0
 bd:∀i,i<n->(tx L i).size<=9223372036854775807
 cell:∀x,a=some x->∀i,i<n->w.cell? (x.add i)=some (.string (tx L i))
theorem RdT.one {w a n c L} (h:RdT w a n c L) {k:Nat} (hk:k<n):
  ∃b o x,a=some ⟨b,o,none⟩/\b<w.heap.size/\Hid (tx L k=x)/\x.size<=9223372036854775807/\w.cell? ⟨b,o+k,none⟩=some (.string x):=by
 cases ha:a with
 | none=>have:=h.nil ha;have:=h.cap;omega
 | some x=>
  have h0:=h.cell x ha k hk;have hs:x.spot=none:=by
   have:=spot_none (h.cell x ha 0 (by omega));unfold Addr.add at this;split at this <;> simp_all
  obtain ⟨b,o,s⟩:=x;simp only at hs;subst hs;rw [Addr.add_lit] at h0;exact ⟨b,o,_,rfl,World.block_lt_of_cell? w _ h0,rfl,h.bd k hk,h0⟩
theorem RdT.below {w w' a n c L} (h:RdT w a n c L) (hb:Below w.heap.size w w'):RdT w' a n c L:=by
 refine ⟨h.len,h.cap,h.max,h.nil,h.bd,λx hx i hi=>?_⟩
 have:=h.cell x hx i hi;rw [hb.cell (World.block_lt_of_cell? w _ this)];exact this
theorem strs_at {L:List ByteArray} {i:Nat} (h:i<L.length):(strs L)[i]? = some (.string (tx L i)):=by
 simp [strs,tx,h]
theorem RdT.own {w:World} {base n:Nat} {E:TypeId} {v:Value} {L:List ByteArray} (h:w.ownsRow base E 1 v n (strs L)) (hn:0<n) (hb:∀x ∈ L,x.size<=9223372036854775807):∃g c,v = .slice (some ⟨g,0,none⟩) n c/\base<=g/\RdT w (some ⟨g,0,none⟩) n c L:=by
 obtain ⟨g,c,rfl,hg,_,h1,h2⟩:=own_atZ h hn;have hl:L.length=n:=by have:=h.1;rw [strs_len] at this;omega
 refine ⟨g,c,rfl,hg,hl,h1,h2,by simp,λi hi=>?_,λx hx i hi=>?_⟩
 ·refine hb _ ?_;unfold tx;rw [List.getD_eq_getElem?_getD,List.getElem?_eq_getElem (by omega)];exact List.getElem_mem _
 ·obtain rfl:=Option.some.inj hx;rw [Addr.add_lit,Nat.zero_add];exact own_cellZ h (strs_at (by omega))
theorem RdT.tail {w} {g o n c:Nat} {L} (h:RdT w (some ⟨g,o,none⟩) (n+1) (c+1) L):RdT w (some ⟨g,o+1,none⟩) n c (L.drop 1):=by
 have ht:∀i,tx (L.drop 1) i=tx L (i+1):=λi=>by simp [tx]
 refine ⟨by rw [List.length_drop,h.len];rfl,by have:=h.cap;omega,by have:=h.max;omega,by simp,λi hi=>?_,λx hx i hi=>?_⟩
 ·rw [ht];exact h.bd _ (by omega)
 ·obtain rfl:=Option.some.inj hx;have:=h.cell _ rfl (i+1) (by omega);rw [Addr.add_lit] at this ⊢;rw [ht,<- this];congr 2;omega
def nbl (L:List ByteArray) (k:Nat):List Int:=(List.range k).map λi=>dgn (tx L i) (tx L i).size
theorem nbl_snoc {L:List ByteArray} {k:Nat} {x:Int} (h:dgn (tx L k) (tx L k).size=x):nbl L k ++ [x]=nbl L (k+1):=by rw [nbl,nbl,List.range_succ,List.map_append,<- h];rfl
theorem nbl_len (L:List ByteArray) (k:Nat):(nbl L k).length=k:=by simp [nbl]
def okn (L:List ByteArray) (k:Nat):Prop:=∀i,i<k->okd (tx L i)
theorem okn_succ {L k} (h:okn L k) (hk:okd (tx L k)):okn L (k+1):=λi hi=>by
 by_cases e:i=k
 ·rw [e];exact hk
 ·exact h i (by omega)
theorem okd_bd {s} (h:okd s):0<=dgn s s.size/\dgn s s.size<=9999999999:=by
 have:=dgn_bd h.2.1;have:=ten_le h.1.2;omega
def Nmb (L:List ByteArray) (n:Nat) (w:World) (e:Ending) (w':World):Prop:=
 ((¬ okn L n/\e = .returned (.tuple #[.slice none 0 0,.bool false]))\/(okn L n/\∃v,e = .returned (.tuple #[v,.bool true])/\w'.ownsRow w.heap.size 3 1 v n (zns (nbl L n))))/\Below w.heap.size w w'
theorem rNumbers (a n c L w) (h:RdT w a n c L) (hn:n<=100000):
  Calls Tryz.prog 29 #[.slice a n c] w λe w'=>Nmb L n w e w':=by
 have ap:=h.cap;go_enter Tryz.func29,Tryz.ntmps29;go_wp2;go_loopw [4,5] (λv i wr=>∃k:Nat,k<=n/\i = .int .i64 k/\Hid (okn L k)/\wr.ownsRow w.heap.size 3 1 v k (zns (nbl L k))/\Below w.heap.size w wr) (λ_ i _=>n-(intOf i).toNat)
 case atStart=>exact ⟨0,Nat.zero_le _,rfl,λi hi=>by omega,World.ownsRow_nil _ _ _ _,Below.refl _ _⟩
 case round=>
  obtain ⟨k,hk,rfl,HO,ab,aa⟩:=hrel;have ag:=aa.size;by_cases hlt:k<n
  ·obtain ⟨b,o,x,rfl,aq,HX,ah,hc⟩:=(h.below aa).one hlt;go_wp2_with fail;refine (rDigits _ _ ah).mono ?_;rintro e w' ⟨r,rfl,hD,hw⟩;have hw:=hw.symm;subst hw;have ak:=hD.bd;rcases hD with ⟨ad,hr⟩ | ⟨ai,hr⟩
   ·have h0:=okd_bd ad;rw [<- hr] at h0;have HN:Hid (zns (nbl L k) ++ [.int .i64 r]=zns (nbl L (k+1))):=by unfold Hid;rw [zns_snoc,nbl_snoc (by rw [HX.out];exact hr.symm)]
    have al:Hid (okn L (k+1)):=okn_succ HO.out (by rw [HX.out];exact ad);have HD:Hid (Dgt x r):=.inl ⟨ad,hr⟩;clear ad hr ak;go_wp2_with (first | (go_at_call 71;refine (rDigits _ _ ah).mono ?_;rintro e w' ⟨r2,rfl,aj,hw⟩;have hw:=hw.symm;subst hw;have am:=HD.out.one aj;subst am;clear aj) | (at_builtin;refine wpList_appV Tryz.underlying63 infoZ rfl (by omega) _ rfl _ _ rfl w.heap.size _ _ _ rfl ab (.int .i64 r) rfl rfl (by omega) ag ?_;intro v2 w2 ae af _;rw [HN.out] at ae;have an:=aa.grown af ag (λq hq=>(ab.lt q hq).1);clear af ab aa));exact ⟨⟨k+1,by omega,by go_num,al,ae,an⟩,by simp [intOf];omega⟩
   ·subst hr;have HN:Hid (¬ okn L n):=λe=>ai (by rw [<- HX.out];exact e k hlt);clear ai;go_wp2;go_ret2;exact ⟨.inl ⟨HN.out,rfl⟩,aa⟩
  ·have ao:k=n:=by omega
   subst ao;go_wp2;go_ret2;exact ⟨.inr ⟨HO.out,_,rfl,ab⟩,aa⟩
theorem wpList_appW {P:Program} {T E:TypeId} {z:Value} {by_:Nat} (hT:P.underlying T=some (.slice E)) (info:(P.info? E).map (λi=>(i.zero,i.size,i.bytes))=some (some z,1,by_)) (hz:z.cells.size=1) (hby:by_<=100) (w:World) {ops:Array Oper} {rest:List Oper} {o:Oper} {a:Act} {Q:Exit->Act->World->Prop} (hgd:o.guard=none) (s x:Operand) (ho:o.op = .call { callee:=.builtin .append,args:=#[s,x],argTypes:=#[T,T] }) (base:Nat) (v:Value) (n:Nat) (xs:List Value) (hs:a.eval s=v) (hown:w.ownsRow base E 1 v n xs) (y:Value) (hy:y.oneCell'=true) (hx:a.eval x = .slice (some ⟨w.heap.size,0,none⟩) 1 1) (hn:n<=3000000) (hbase:base<=w.heap.size) (h:∀v' w',w'.ownsRow base E 1 v' (n+1) (xs ++ [y])->w.grownBy w' v.ownBlock->(v'.ownBlock=v.ownBlock\/∃k,v'.ownBlock=some k/\w.heap.size<=k)->wpList P ops Q rest (a.put o.dst v') w'):
  wpList P ops Q (o :: rest) a (w.alloc (.cells #[y] E)):=by
 obtain ⟨i0,hi,ae,af,ag⟩:=info_parts info;refine wpList_append_own_at _ hgd s x T ho base E i0 z 1 by_ hT hi ae af ag hz (by decide) v n _ hs (hown.alloc _) ⟨w.heap.size,0,none⟩ 1 1 [y] hx rfl (cell_one_new _ _ _) (λu hu=>by simp at hu;subst hu;exact hy) (by unfold maxLen;omega) ?_ (by simp;omega) ?_
 ·have:(n+1)*by_<=3000001*100:=Nat.mul_le_mul (by omega) hby
  omega
 ·intro v' w' ad aa _ ab;refine h v' w' ad ⟨aa.os,aa.tape,aa.output,?_,λk hk hne=>?_⟩ ?_
  ·have:=aa.size;simp at this;omega
  ·rw [aa.block k (by simp;omega) hne];exact Below.heap_alloc _ _ _ hk
  ·rcases ab with ab | ab
   ·exact .inl ab
   ·exact .inr ⟨_,ab,by simp⟩
theorem rPiecesB (s:ByteArray) (b:Int) (w) (hs:s.size<=2000000) (hb0:0<=b) (hb1:b<=255):
  Calls Tryz.prog 26 #[.string s,.int .u8 b] w λe w'=>∃v,e = .returned v/\w'.ownsRow w.heap.size 9 1 v (pcs s b s.size).length (strs (pcs s b s.size))/\Below w.heap.size w w':=by
 have ai:(w.alloc (.cells #[.string ⟨#[]⟩] 9)).ownsRow w.heap.size 9 1 (.slice (some ⟨w.heap.size,0,none⟩) 1 1) (pcs s b 0).length (strs (pcs s b 0)):=own_new1 w _ _;have ae:=(Below.refl w.heap.size w).alloc (Nat.le_refl _) (.cells #[.string ⟨#[]⟩] 9);go_enter Tryz.func26,Tryz.ntmps26;go_wp2;go_loopw [5,6] (λv i wr=>∃k:Nat,k<=s.size/\i = .int .i64 k/\wr.ownsRow w.heap.size 9 1 v (pcs s b k).length (strs (pcs s b k))/\Below w.heap.size w wr) (λ_ i _=>s.size-(intOf i).toNat)
 case atStart=>exact ⟨0,Nat.zero_le _,rfl,ai,ae⟩
 case round=>
  clear ai ae;obtain ⟨k,hk,rfl,aa,ab⟩:=hrel;have aj:=ab.size;by_cases hlt:k<s.size
  ·have hl:=pcs_len s b k;obtain ⟨g,c,rfl,hg,av,am,an⟩:=own_atZ aa hl.1;obtain ⟨x,HX⟩:=nmd (bt s k);have hx:=bt_bd s k;have ao:=λw=>bt_run (P:=Tryz.prog) Tryz.underlying9 s hlt w;rw [HX.out] at hx ao;unfold maxLen at an;by_cases hxb:x=b
   ·have HE:Hid (pcs s b k ++ [mt]=pcs s b (k+1)):=pcs_yes (by rw [HX.out];exact hxb);obtain ⟨m,HM⟩:=nmd ((pcs s b k).length);have af:Hid ((pcs s b (k+1)).length=m+1):=by unfold Hid;rw [<- HE.out,List.length_append,HM.out];rfl
    have HS:Hid (strs (pcs s b k) ++ [.string ⟨#[]⟩]=strs (pcs s b (k+1))):=by unfold Hid;rw [<- HE.out];simp [strs,mt]
    rw [HM.out] at aa hl ⊢;subst hxb;go_wp2_with (at_builtin;refine wpList_appW Tryz.underlying24 infoS rfl (by omega) _ rfl _ _ rfl w.heap.size _ _ _ rfl aa (.string ⟨#[]⟩) rfl rfl (by omega) aj ?_;intro v2 w2 ad ag _;rw [HS.out] at ad;have ap:=ab.grown ag aj (λp hp=>(aa.lt p hp).1);clear ag aa ab);go_roundw
    case rel=>exact ⟨k+1,by omega,by go_num,by rw [af.out];exact ad,ap⟩
    case measure=>simp [intOf];omega
   ·have HE:=pcs_no (s:=s) (b:=b) (k:=k) (by rw [HX.out];exact hxb);obtain ⟨m,HM⟩:∃m,Hid ((pcs s b k).length=m+1):=⟨(pcs s b k).length-1,by unfold Hid;omega⟩;obtain ⟨y,HY⟩:=nmd ((pcs s b k).getD m mt);obtain ⟨z,HZ⟩:=nmd (s.extract k (k+1));rw [HM.out,Nat.add_sub_cancel,HY.out,HZ.out] at HE;have af:Hid ((pcs s b (k+1)).length=m+1):=by unfold Hid;rw [<- HE,List.length_set,HM.out]
    have HS:Hid ((strs (pcs s b k)).set m (.string (y++z))=strs (pcs s b (k+1))):=by unfold Hid;rw [<- HE,strs,strs,List.map_set]
    have ak:(strs (pcs s b k))[m]? = some (.string y):=by
     rw [strs,List.getElem?_map,List.getElem?_eq_getElem (by have:=HM.out;omega),Option.map_some,<- HY.out,List.getD_eq_getElem?_getD,List.getElem?_eq_getElem (by have:=HM.out;omega)];rfl
    have al:y ∈ pcs s b k:=by
     rw [<- HY.out,List.getD_eq_getElem?_getD,List.getElem?_eq_getElem (by have:=HM.out;omega)];exact List.getElem_mem _
    have aw:=pcs_size s b k y al;have ax:z.size<=1:=by rw [<- HZ.out,ByteArray.size_extract];omega
    rw [HM.out] at aa hl am ⊢;have ar:=own_cellZ aa ak;have ay:=own_frozenZ aa m;have ah:=own_setZ aa m (.string (y++z));rw [HS.out] at ah;have HO:=hid ah;have HB:Hid (Below w.heap.size w (wr.setCell ⟨g,m,none⟩ (.string (y++z)))):=ab.setCell (p:=⟨g,m,none⟩) hg _;have hsl:∀w,(Instr.slice 9 (.string s) (some (.int .i64 (k:Int))) (some (.int .i64 ((k:Int)+1))) none).run Tryz.prog w = .ok (.string z) w:=λw=>by
     rw [run_slice_string_if w 9 s .i64 .i64 _ _ Tryz.underlying9,if_pos ⟨by omega,by omega⟩,if_pos ⟨by omega,by omega⟩,<- HZ.out];rfl
    have az:(0:Int)<=(m:Int):=by omega
    have au:(x==b)=false:=by rw [beq_eq_false_iff_ne];exact hxb
    clear ah aa ab HE ak al hxb;go_wp2;go_region
    all_goals
     go_wp2;exact ⟨⟨k+1,by omega,by go_num,by rw [af.out];exact HO.out,HB.out.drew⟩,by simp [intOf];omega⟩
  ·have aq:k=s.size:=by omega
   subst aq;go_wp2;go_ret;exact ⟨_,rfl,aa,ab⟩
end
section
open Crm Go.Maps Go.RowKit
theorem lawI:Keyed Tryz.prog 3:=int_keyed Tryz.underlying3
theorem zeroU (w:World):(zeroValue 70).run Tryz.prog w = .ok (.int .u64 0) w:=by kernel_rfl
theorem infoGate:(Tryz.prog.info? 138).map (λi=>(i.zero,i.size,i.bytes))=some (some (.agg #[.int .i64 0,.int .i64 0,.int .i64 0,.int .u64 0]),4,32):=by kernel_rfl
theorem infoUO:(Tryz.prog.info? 70).map (λi=>(i.zero,i.size,i.bytes))=some (some (.int .u64 0),1,8):=by kernel_rfl
theorem rOuts (ag n cg G ao m co O ai q ca ins w) (h:RdG w ag n cg G) (g:RdI w ao m co O) (ih:Rd w ai q ca ins) (hn1:1<=n) (hn:n<=30) (hm:m<=30) (hG:okG G n) (hO:okO O n m) (hq:q=ci G n):
  Calls Tryz.prog 82 #[.agg #[.slice ag n cg,.slice ao m co],.slice ai q ca] w λe w'=>∃v,e = .returned v/\w'.ownsRow w.heap.size 70 1 v m ((otl G O ins m).map (Value.int .u64))/\Below w.heap.size w w':=by
 obtain ⟨i0,hi,a7,a8,a9⟩:=info_parts infoGate;have HG:=hid hG;have HO:=hid hO;have HQ:=hid hq;have bC:=h.cap;have bD:=h.max;have a3:=h.len;clear hG hO hq;have bI:=@run_makeMap Tryz.prog;have ay:=CBox.new w ag n cg ao m co;have ap:Below w.heap.size w (w.alloc (.cells #[.slice ag n cg,.slice ao m co] 89)):=bal _ _;go_enter Tryz.func82,Tryz.ntmps82;go_upto_region 1 with fail;generalize w.alloc (.cells #[.slice ag n cg,.slice ao m co] 89)=w0 at *;have aH:=World.ownsMap_made w0 Tryz.prog 3 (plainElem (H:=Unit) Tryz.prog 70);have az:Below w0.heap.size w0 (w0.alloc (.map #[] 0)):=bal _ _;have aI:=ay.below az ay.lt;have aA:=btr ap az;have bJ:w.heap.size<=w0.heap.size:=ap.size;go_wp2;go_loopw [7] (λv wr=>∃i:Nat,i<=n/\v = .int .i64 i/\CBox wr w.heap.size ag n cg ao m co/\wr.ownsMap Tryz.prog 3 (plainElem (H:=Unit) Tryz.prog 70) w0.heap.size i (mpd (wi G ins) i)/\Below w.heap.size w wr) (λv _=>n-(intOf v).toNat)
 case atStart=>exact ⟨0,Nat.zero_le _,rfl,aI,aH,aA⟩
 case round=>
  clear aI aH aA az ay ap;obtain ⟨i,bK,rfl,hC,hM,ab⟩:=hrel;obtain ⟨d0,d1⟩:=hC.cells;have aJ:=hC.lt;have aq:=ab.size;by_cases hlt:i<n
  ·obtain ⟨b,o,k,x,y,z,rfl,ba,bb,hk,hx,hy,hz,c1,c2,c3,c4⟩:=(h.below ab).one hlt;have ar:=(h.below ab).news (k:=i+1) (by omega);have au:=hid ar;have aK:Hid ((gcs (G.take (i+1))).length=(i+1)*4):=by unfold Hid;rw [gcs_len,List.length_take,a3];congr 1;omega
   have aL:Hid (G.take (i+1)=dgj G ins (i+1) 0):=dgj_zero G ins (by omega);clear ar c1 c2 c3 c4 hk hx hy hz bb;go_upto_region 7 with (at_builtin;refine wpList_append_own _ rfl _ _ 87 rfl w.heap.size 138 i0 (.agg #[.int .i64 0,.int .i64 0,.int .i64 0,.int .u64 0]) 4 32 Tryz.underlying87 hi a7 a8 a9 rfl (by decide) (.slice none 0 0) 0 [] rfl (World.ownsRow_nil _ _ _ _) ⟨b,o,none⟩ (i+1) cg (gcs (G.take (i+1))) rfl aK.out au.out (gcs_one _) (by unfold maxLen;omega) (by omega) aq ?_;intro v2 w2 ae ah _;rw [Nat.zero_add,List.nil_append,aL.out] at ae;obtain ⟨g2,c2,rfl,bE,bF,bG,bH⟩:=own_atZ ae (by omega));have aB:Below w.heap.size w w2:=ab.grown ah aq (by simp [Value.ownBlock]);have av:=hC.grown ah (by simp [Value.ownBlock]);have aM:=hM.kept ah (by simp [Value.ownBlock]);have aN:=CBox.new w2 (some ⟨g2,0,none⟩) (i+1) c2 none 0 0;have am:Below w2.heap.size w2 (w2.alloc (.cells #[.slice (some ⟨g2,0,none⟩) (i+1) c2,.slice none 0 0] 89)):=bal _ _;have aO:=av.below am av.lt;have aP:=aM.alloc (.cells #[.slice (some ⟨g2,0,none⟩) (i+1) c2,.slice none 0 0] 89);have ad:=ae.alloc (.cells #[.slice (some ⟨g2,0,none⟩) (i+1) c2,.slice none 0 0] 89);have aQ:=btr aB am;have bL:w2.heap.size≠w.heap.size:=by have:=av.lt;omega
   generalize w2.alloc (.cells #[.slice (some ⟨g2,0,none⟩) (i+1) c2,.slice none 0 0] 89)=w3 at *;clear hC hM ab ae ah aB av aM am au aK aL d0 d1 aJ;go_wp2;go_loopw [9] (λv wr=>∃j:Nat,j<=i/\v = .int .i64 j/\wr.ownsRow w.heap.size 138 4 (.slice (some ⟨g2,0,none⟩) (i+1) c2) (i+1) (gcs (dgj G ins (i+1) j))/\CBox wr w2.heap.size (some ⟨g2,0,none⟩) (i+1) c2 none 0 0/\CBox wr w.heap.size (some ⟨b,o,none⟩) n cg ao m co/\wr.ownsMap Tryz.prog 3 (plainElem (H:=Unit) Tryz.prog 70) w0.heap.size i (mpd (wi G ins) i)/\Below w.heap.size w wr) (λv _=>i-(intOf v).toNat)
   case atStart=>exact ⟨0,Nat.zero_le _,rfl,ad,aN,aO,aP,aQ⟩
   case round=>
    clear ad aN aO aP aQ;obtain ⟨j,hj,rfl,aa,hD,hC,hM,ab⟩:=hrel;obtain ⟨d0,d1⟩:=hD.cells;have bc:=hD.lt;have aR:=dgj_len G ins (i+1) j;by_cases hji:j<i
    ·obtain ⟨e1,e2,e3,e4⟩:=gcs_get (dgj G ins (i+1) j) j (by rw [aR];omega);have f1:=aa.cells (g:=g2) rfl _ _ e1;have f2:=aa.cells (g:=g2) rfl _ _ e2;have f3:=aa.cells (g:=g2) rfl _ _ e3;have f4:=aa.cells (g:=g2) rfl _ _ e4;rw [Addr.add_lit,Nat.zero_add] at f1 f2 f3 f4;have bM:=(own_lt aa).2;have be:Hid ((gt (dgj G ins (i+1) j) j).k=(gt G j).k):=by unfold Hid;rw [dgj_gt G ins j (by omega),if_neg (λh=>by omega)]
     rw [be.out] at f1;obtain ⟨kk,aC⟩:=nmd ((gt G j).k);rw [aC.out] at f1;have bN:(j:Int)<(i:Int)+1:=by omega
     have bO:(0:Int)<=(j:Int):=by omega
     by_cases hk1:kk=1
     ·subst hk1;have aD:Hid (gcs (dgj G ins (i+1) j)=gcs (dgj G ins (i+1) (j+1))):=by unfold Hid;rw [dgj_in G ins (i+1) j aC.out]
      rw [aD.out] at aa;clear e1 e2 e3 e4;go_wp2;go_roundw
      case rel=>exact ⟨j+1,by omega,by go_num,aa,hD,hC,hM,ab⟩
      case measure=>simp [intOf];omega
     ·have bP:(kk != 1)=true:=by rw [bne_iff_ne];exact hk1
      have aD:Hid ((dgj G ins (i+1) j).set j ⟨2,0,0,wi G ins j⟩=dgj G ins (i+1) (j+1)):=dgj_set G ins (by rw [aC.out];exact hk1);have aE:Hid ((mpd (wi G ins) i).atKey (.int .i64 (j:Int)) (.lit (.int .u64 0)) = .lit (.int .u64 (wi G ins j))):=mpd_at _ _ i hji;have z1:=own_frozenZ aa (j*4);have z2:=own_frozenZ aa (j*4+1);have z3:=own_frozenZ aa (j*4+2);have z4:=own_frozenZ aa (j*4+3);have aF:=own_setZ (own_setZ (own_setZ (own_setZ aa (j*4) (.int .i64 2)) (j*4+1) (.int .i64 0)) (j*4+2) (.int .i64 0)) (j*4+3) (.int .u64 (wi G ins j));rw [gcs_set,aD.out] at aF;have ak:wr.grownBy ((((wr.setCell ⟨g2,j*4,none⟩ (.int .i64 2)).setCell ⟨g2,j*4+1,none⟩ (.int .i64 0)).setCell ⟨g2,j*4+2,none⟩ (.int .i64 0)).setCell ⟨g2,j*4+3,none⟩ (.int .u64 (wi G ins j))) (some g2):=grown_trans (grown_trans (grown_trans (grown_set _ _ _ _) (grown_set _ _ _ _)) (grown_set _ _ _ _)) (grown_set _ _ _ _);have bf:=hid aF;have bg:Hid (CBox _ w2.heap.size _ _ _ _ _ _):=hD.grown ak (by simp only [ne_eq,Option.some.injEq];exact λe=>hD.apart aa (by decide) e.symm);have bh:Hid (CBox _ w.heap.size _ _ _ _ _ _):=hC.grown ak (by simp only [ne_eq,Option.some.injEq];exact λe=>hC.apart aa (by decide) e.symm);have bi:Hid (World.ownsMap _ _ _ _ _ _ _):=hM.kept ak (by simp only [ne_eq,Option.some.injEq];exact λe=>map_apart hM aa e.symm);have bj:Hid (Below w.heap.size w _):=ab.grown ak ab.size (λp hp=>by simp only [Option.some.injEq] at hp;rw [<- hp];exact (own_lt aa).1);clear aF ak e1 e2 e3 e4 hk1 aa hD hC ab;go_wp2_with (at_lookup;refine wpList_lookup_own_int _ rfl _ _ 162 rfl 3 70 .u64 lawI Tryz.underlying162 Tryz.underlying70 (zeroU _) w0.heap.size i _ rfl hM _ _ rfl (keyOf_int_mk Tryz.underlying3 (WalkArith.wf_i64 (by omega))) ?_;intro cc af _;rw [aE.out] at af;obtain rfl:wi G ins j=cc:=(by simpa using af);clear af);exact ⟨⟨j+1,by omega,by go_num,bf.out,bg.out,bh.out,bi.out,bj.out⟩,by simp [intOf];omega⟩
    ·have a4:j=i:=by omega
     subst a4;have aS:∀p,p<j+1->(-9223372036854775808<=(gt (dgj G ins (j+1) j) p).k/\(gt (dgj G ins (j+1) j) p).k<=9223372036854775807)/\(-9223372036854775808<=(gt (dgj G ins (j+1) j) p).a/\(gt (dgj G ins (j+1) j) p).a<=9223372036854775807)/\(-9223372036854775808<=(gt (dgj G ins (j+1) j) p).b/\(gt (dgj G ins (j+1) j) p).b<=9223372036854775807)/\0<=(gt (dgj G ins (j+1) j) p).n/\(gt (dgj G ins (j+1) j) p).n<=18446744073709551615:=λp hp=>by
      rw [dgj_gt G ins j hp];split
      ·have:=wi_bd G ins p;exact ⟨by simp only;omega,by simp only;omega,by simp only;omega,by simp only;omega⟩
      ·exact h.bd p (by omega)
     have aT:=RdG.own aa aR aS;have aU:=hid aT;obtain ⟨aV,aW⟩:=dgj_dv (G:=G) (ins:=ins) (n:=j+1) (i:=j) (by omega) (HG.out j hlt);have bk:=hid aW;have bl:=hid aV;have bQ:=wi_bd G ins j;have aj:=ih.below ab;have bm:Hid ((mpd (wi G ins) j).put (.int .i64 (j:Int)) (.lit (.int .u64 (wi G ins j)))=mpd (wi G ins) (j+1)):=rfl;have aX:∀p,p<=j->(gt (dgj G ins (j+1) j) p).k=1->ci (dgj G ins (j+1) j) p<q:=λp hp hk=>by
      rw [dgj_ci G ins (by omega) p hp,HQ.out];have bo:(gt G p).k=1:=by
       rw [dgj_gt G ins j (by omega)] at hk;split at hk
       ·simp at hk
       ·exact hk
      exact ci_lt (by omega) bo
     have bp:=hid aX;have bq:=ab.size;clear aS aT aV aW aX aa;go_wp2_with fail;refine (rValue _ _ _ _ _ _ _ _ _ _ _ j _ aU.out aj (by omega) (by omega) (λp hp=>(dgj_lf (by omega) hp).1) bp.out (by rw [bl.out];exact HG.out j hlt)).mono ?_;rintro e w5 ⟨rfl,aw⟩;rw [bk.out];have aY:=hM.kept (grown_below aw none) (by simp);have br:=hC.below aw hC.lt;have aG:=ab.trans (aw.mono bq);have a5:w0.heap.size≠w.heap.size:=λe=>by
      obtain ⟨es,ck,e1,_⟩:=hM;unfold CBox at hC;rw [e] at e1;rw [e1] at hC;simp at hC
     clear hM hC hD ab aw aj aU d0 d1 bc;go_wp2_with (at_mapUpdate;refine wpList_mapUpdate_own _ rfl _ _ _ 162 rfl 3 70 lawI Tryz.underlying162 _ w0.heap.size j _ rfl aY (by unfold maxLen;omega) _ _ _ rfl rfl (keyOf_int_mk Tryz.underlying3 (WalkArith.wf_i64 (by omega))) _ [] (plainElem_int Tryz.underlying70 (WalkArith.wf_u64 (by omega))) ?_;intro w6 aZ an;rw [bm.out] at aZ;have bu:=br.grown an (by simp only [ne_eq,Option.some.injEq];exact λe=>a5 e.symm);have bv:=aG.grown an aG.size (λp hp=>by simp only [Option.some.injEq] at hp;omega);clear an aY);exact ⟨⟨j+1,by omega,by go_num,bu,aZ,bv⟩,by simp [intOf];omega⟩
  ·have aj:i=n:=by omega
   subst aj;go_wp2;obtain ⟨wo,bw⟩:∃wo,wo=wr:=⟨_,rfl⟩;subst bw;go_loopw [5,10] (λv p wr'=>∃j:Nat,j<=m/\p = .int .i64 j/\wr'.ownsRow wo.heap.size 70 1 v j ((otl G O ins j).map (Value.int .u64))/\Below wo.heap.size wo wr') (λ_ p _=>m-(intOf p).toNat)
   case atStart=>exact ⟨0,Nat.zero_le _,rfl,World.ownsRow_nil _ _ _ _,Below.refl _ _⟩
   case round=>
    obtain ⟨j,hj,rfl,aa,al⟩:=hrel;have a0:=hC.below al hC.lt;obtain ⟨f0,f1⟩:=a0.cells;have bR:=a0.lt;have a1:=hM.kept (grown_below al none) (by simp);have bS:=al.size;have a2:=ab.trans (al.mono aq);have HM:=hid hM;have HC:=hid hC;clear hM hC d0 d1 aJ;by_cases hjm:j<m
    ·obtain ⟨b,o,x,rfl,ba,HX,bx,bz,c1⟩:=(g.below a2).one hjm;obtain ⟨p0,p1⟩:=HO.out j hjm;rw [HX.out] at p0 p1;obtain ⟨p,rfl⟩:∃p:Nat,x=(p:Int):=⟨x.toNat,by omega⟩;have aE:Hid ((mpd (wi G ins) i).atKey (.int .i64 (p:Int)) (.lit (.int .u64 0)) = .lit (.int .u64 (wi G ins p))):=mpd_at _ _ i (by omega);have bA:Hid (otl G O ins j ++ [wi G ins p]=otl G O ins (j+1)):=by
      have:=otl_snoc G O ins j;rw [HX.out,Int.toNat_natCast] at this;exact this
     clear bx bz;go_wp2_with (first | (at_lookup;refine wpList_lookup_own_int _ rfl _ _ 162 rfl 3 70 .u64 lawI Tryz.underlying162 Tryz.underlying70 (zeroU _) w0.heap.size i _ rfl a1 _ _ rfl (keyOf_int_mk Tryz.underlying3 (WalkArith.wf_i64 (by omega))) ?_;intro cc af _;rw [aE.out] at af;obtain rfl:wi G ins p=cc:=(by simpa using af);clear af) | (at_builtin;refine wpList_app1 (T:=52) Tryz.underlying52 infoUO _ rfl _ _ rfl wo.heap.size _ _ _ rfl aa _ rfl (by omega) (by omega) ?_;intro v' w3 ad ax;rw [bA.out] at ad;have a6:=al.trans ax;clear aa ax));exact ⟨⟨j+1,by omega,by go_num,ad,a6⟩,by simp [intOf];omega⟩
    ·obtain rfl:j=m:=by omega
     have bB:=own_base aa aq;clear aa a1;go_wp2;go_ret;exact ⟨_,rfl,bB,a2⟩
end
section
open Crm Go.RowKit
def Rnb (s:ByteArray) (w:World) (e:Ending) (w':World):Prop:=((okd s/\e = .returned (.tuple #[.int .u64 (dgn s s.size),.bool true]))\/(¬ okd s/\e = .returned (.tuple #[.int .u64 0,.bool false])))/\w'=w
theorem cNumber (s:ByteArray) (w) (hs:s.size<=9223372036854775807):
  Calls Tryz.prog 96 #[.string s] w λe w'=>Rnb s w e w':=by
 go_enter Tryz.func96,Tryz.ntmps96;by_cases h1:s.size<1
 ·have HN:Hid (¬ okd s):=λo=>by have:=o.1;omega
  go_wp2;go_ret2;exact ⟨.inr ⟨HN.out,rfl⟩,rfl⟩
 by_cases h10:10<s.size
 ·have HN:Hid (¬ okd s):=λo=>by have:=o.1;omega
  go_wp2;go_ret2;exact ⟨.inr ⟨HN.out,rfl⟩,rfl⟩
 by_cases hz:1<s.size/\bt s 0=48
 ·have HN:Hid (¬ okd s):=λo=>o.2.2 hz;have aa:=λw=>bt_run (P:=Tryz.prog) Tryz.underlying9 s (i:=0) (by omega) w;rw [hz.2] at aa;simp only [Int.natCast_zero] at aa;have ah:=hz.1;clear hz;go_wp2;go_ret2;exact ⟨.inr ⟨HN.out,rfl⟩,rfl⟩
 have HZ:=hid hz;obtain ⟨x,HX⟩:=nmd (bt s 0);have hx:=bt_bd s 0;have aa:=λw=>bt_run (P:=Tryz.prog) Tryz.underlying9 s (i:=0) (by omega) w;rw [HX.out] at hx aa hz;simp only [Int.natCast_zero] at aa;have ae:(1<s.size/\(x==48)=false)\/s.size=1:=by
  by_cases e:1<s.size
  ·exact .inl ⟨e,by rw [beq_eq_false_iff_ne];exact λe'=>hz ⟨e,e'⟩⟩
  ·exact .inr (by omega)
 clear hz;rcases ae with ⟨ab,af⟩ | ab
 all_goals
  go_wp2;clear aa;try clear af
  go_loopw [4,26] (λv i wr=>∃k:Nat,k<=s.size/\i = .int .i64 k/\v = .int .u64 (dgn s k)/\Hid (dgs s k)/\wr=w) (λ_ i _=>11-(intOf i).toNat)
  case atStart=>exact ⟨0,Nat.zero_le _,rfl,rfl,dgs_zero s,rfl⟩
  case round=>
   obtain ⟨k,hk,rfl,rfl,HD,rfl⟩:=hrel;by_cases hlt:k<s.size
   ·obtain ⟨x,HX⟩:=nmd (bt s k);have hx:=bt_bd s k;have aa:=λw=>bt_run (P:=Tryz.prog) Tryz.underlying9 s hlt w;rw [HX.out] at hx aa;have hd:=dgn_bd HD.out;have ht:=ten_le (k:=k) (by omega);obtain ⟨d,Hd⟩:=nmd (dgn s k);rw [Hd.out] at hd ⊢;have ai:d<=9999999999:=by omega
    have aj:=hd.1;clear hd ht;have HN:Hid (x<48\/57<x->¬ okd s):=λe o=>dgs_not hlt (by rw [HX.out];exact e) o.2.1;by_cases hlo:x<48
    ·go_wp2;go_ret2;exact ⟨.inr ⟨HN.out (.inl hlo),rfl⟩,rfl⟩
    ·by_cases hhi:57<x
     ·go_wp2;go_ret2;exact ⟨.inr ⟨HN.out (.inr hhi),rfl⟩,rfl⟩
     ·have ag:Hid (dgs s (k+1)):=dgs_succ HD.out (by rw [HX.out];omega) (by rw [HX.out];omega);have HV:Hid (dgn s (k+1)=d*10+(x-48)):=by unfold Hid;rw [dgn,Hd.out,HX.out];omega
      go_wp2;go_roundw
      case rel=>exact ⟨k+1,by omega,by go_num,by rw [HV.out],ag,trivial⟩
      case measure=>simp [intOf];omega
   ·have ad:k=s.size:=by omega
    have ak:¬ ((k:Int)<(s.size:Int)):=by omega
    have HY:Hid (okd s):=⟨⟨by omega,by omega⟩,by rw [<- ad];exact HD.out,HZ.out⟩;have HV:Hid (dgn s k=dgn s s.size):=by unfold Hid;rw [ad]
    go_wp2;go_ret2;exact ⟨.inl ⟨HY.out,by first | (rw [<- HV.out];rfl) | (rw [ab];rfl)⟩,rfl⟩
theorem cNumberY (s:ByteArray) (w) (hs:s.size<=9223372036854775807) (h:okd s):
  Calls Tryz.prog 96 #[.string s] w λe w'=>e = .returned (.tuple #[.int .u64 (dgn s s.size),.bool true])/\w'=w:=by
 refine (cNumber s w hs).mono ?_;rintro e w' ⟨⟨_,he⟩ | ⟨h',_⟩,hw⟩
 ·exact ⟨he,hw⟩
 ·exact absurd h h'
theorem cNumberN (s:ByteArray) (w) (hs:s.size<=9223372036854775807) (h:¬ okd s):
  Calls Tryz.prog 96 #[.string s] w λe w'=>e = .returned (.tuple #[.int .u64 0,.bool false])/\w'=w:=by
 refine (cNumber s w hs).mono ?_;rintro e w' ⟨⟨h',_⟩ | ⟨_,he⟩,hw⟩
 ·exact absurd h' h
 ·exact ⟨he,hw⟩
def Nmc (L:List ByteArray) (n:Nat) (w:World) (e:Ending) (w':World):Prop:=
 ((¬ okn L n/\e = .returned (.tuple #[.slice none 0 0,.bool false]))\/(okn L n/\∃g,e = .returned (.tuple #[.slice (some ⟨g,0,none⟩) n n,.bool true])/\w.heap.size<=g/\Blk w' g (nbl L n)))/\Below w.heap.size w w'
theorem cNumbers (a n c L w) (h:RdT w a n c L) (hn:n<=100000):
  Calls Tryz.prog 43 #[.slice a n c] w λe w'=>Nmc L n w e w':=by
 obtain ⟨i0,ak,al,am,an⟩:=info_parts info70;have au:=h.cap;go_enter Tryz.func43,Tryz.ntmps43;go_wp2_with (at_make;refine wpList_make_full _ rfl _ _ 52 rfl w.heap.size 70 i0 (.int .u64 0) 1 Tryz.underlying52 ak al am .i64 .i64 _ _ n rfl rfl (by omega) (by omega) (by rw [an];omega) (by unfold maxLen;omega) (Nat.le_refl _) ?_;intro w2 ae ad);have ag:Blk w2 w.heap.size (fil (λi=>dgn (tx L i) (tx L i).size) n 0):=by rw [<- fil_zero];exact Blk.made ae
 have ah:Below w.heap.size w w2:=(Below.refl _ _).grown ad (Nat.le_refl _) (by simp);clear ae ad;go_loopw [14] (λi wr=>∃k:Nat,k<=n/\i = .int .i64 k/\Hid (okn L k)/\Blk wr w.heap.size (fil (λi=>dgn (tx L i) (tx L i).size) n k)/\Below w.heap.size w wr) (λi _=>n-(intOf i).toNat)
 case atStart=>exact ⟨0,Nat.zero_le _,rfl,λi hi=>by omega,ag,ah⟩
 case round=>
  clear ag ah;obtain ⟨k,hk,rfl,HO,hB,aa⟩:=hrel;by_cases hlt:k<n
  ·obtain ⟨b,o,x,rfl,aw,HX,ai,hc⟩:=(h.below aa).one hlt;by_cases hok:okd x
   ·have ar:=hB.cell (i:=k) (by rw [fil_len];exact hlt);have ax:=hB.frozen k;have av:=hB.lt;have ay:(0:Int)<=(k:Int):=by omega
    have aj:(k:Int)<(n:Int):=by omega
    obtain ⟨d,Hd⟩:=nmd (dgn x x.size);have ab:=hB.set k d;rw [fil_set (by show d=dgn (tx L k) (tx L k).size;rw [HX.out,Hd.out])] at ab;have ao:=hid ab;have ap:Hid (okn L (k+1)):=okn_succ HO.out (by rw [HX.out];exact hok);have aq:Hid (Below w.heap.size w (wr.setCell ⟨w.heap.size,k,none⟩ (.int .u64 d))):=aa.setCell (Nat.le_refl _) _;have af:=hid hok;clear hB ab aa hok;go_wp2_with (go_at_call 96;refine (cNumberY _ _ ai af.out).mono ?_;rintro e w' ⟨rfl,hw⟩;have hw:=hw.symm;subst hw;rw [Hd.out]);go_roundw
    case rel=>exact ⟨k+1,by omega,by go_num,ap,ao.out,aq.out⟩
    case measure=>simp [intOf];omega
   ·have HN:Hid (¬ okn L n):=λe=>hok (by rw [<- HX.out];exact e k hlt);have af:=hid hok;clear hok;go_wp2_with (go_at_call 96;refine (cNumberN _ _ ai af.out).mono ?_;rintro e w' ⟨rfl,hw⟩;have hw:=hw.symm;subst hw);go_ret2;exact ⟨.inl ⟨HN.out,rfl⟩,aa⟩
  ·have aj:k=n:=by omega
   subst aj;rw [fil_full] at hB;go_wp2;go_ret2;exact ⟨.inr ⟨HO.out,_,rfl,Nat.le_refl _,hB⟩,aa⟩
end
end Go.Proofs.YtljlioglpaogdacGreatDoor

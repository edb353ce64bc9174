/- GateMC KyA KyB KyG DealtC PlayM EnDef -/
import Derived.Test.YtljlioglpaogdacGreatDoorToTwByM
namespace Go.Proofs.YtljlioglpaogdacGreatDoor
set_option linter.unusedVariables false
set_option maxRecDepth 100000
set_option maxHeartbeats 8000000
section
open Crm Go.RowKit
def pps (xs ys:List Int) (n:Nat):List Int:=(List.range n).map λi=>nm (xs.getD i 0*ys.getD i 0)
theorem pps_getD (xs ys:List Int) {n i:Nat} (h:i<n):(pps xs ys n).getD i 0=nm (xs.getD i 0*ys.getD i 0):=by simp [pps,h]
theorem pps_bd (xs ys:List Int) (n:Nat):∀z ∈ pps xs ys n,0<=z/\z<=18446744073709551615:=by
 intro z hz;obtain ⟨i,_,rfl⟩:=List.mem_map.1 hz;have:=nm_bd (xs.getD i 0*ys.getD i 0);omega
theorem pps_row (t:Nat) (xs ys ds:List Int) {n j:Nat}:gdr t (pps xs ys n) ds n n j=tmR t xs ys ds n j:=by
 unfold gdr tmR;rw [fil_full];refine List.map_congr_left λi hi=>?_;unfold pdC prC;rw [pps_getD xs ys (List.mem_range.1 hi)]
theorem pps_all (t:Nat) (xs ys ds:List Int) (n:Nat):gdi t (pps xs ys n) ds n n=tmG t xs ys ds n:=by
 unfold gdi tmG;exact List.map_congr_left λj _=>pps_row t xs ys ds
theorem pps_out (t:Nat) (xs ys ds:List Int) (n:Nat):(List.range n).map (λj=>wgs (tmG t xs ys ds n) n j n)=tmO t xs ys ds n n:=by
 unfold tmO;refine List.map_congr_left λj hj=>?_;unfold wgs tmf;refine sm_ncongr λi hi=>?_;rw [tmG_getD t xs ys ds (List.mem_range.1 hj),tmR_getD t xs ys ds j hi]
def GtmA (t : Int) (xs ys ds : List Int) (n m q : Nat) (w : World) (e : Ending) (w' : World) : Prop :=
  ((∃ r, r ≠ 0 /\ Gme t n m q r /\ e = .returned (.tuple #[.slice none 0 0, .slice none 0 0, .int .i64 r])) \/
   (Gme t n m q 0 /\ ∃ v u L, e = .returned (.tuple #[v, u, .int .i64 0]) /\ w'.ownsRow w.heap.size 70 1 v n ((tmO t.toNat xs ys ds n n).map (Value.int .u64)) /\ LsV w' w.heap.size u L (tmG t.toNat xs ys ds n) /\
      ∀ i, (L.getD i (.slice none 0 0)).ownBlock = none \/ (L.getD i (.slice none 0 0)).ownBlock ≠ v.ownBlock)) /\ Below w.heap.size w w'
theorem GtmA.rd {t xs ys ds n m q w w' e} (h:GtmA t xs ys ds n m q w e w'):Gtm t xs ys ds n m q w e w':=by
 obtain ⟨h1 | ⟨h1,v,u,L,h2,h3,h4,_⟩,hb⟩:=h
 ·exact ⟨.inl h1,hb⟩
 ·exact ⟨.inr ⟨h1,v,u,L,h2,h3,h4⟩,hb⟩
theorem cGMulA (t a n c xs b m d ys e0 q f ds w) (h:Rd w a n c xs) (g:Rd w b m d ys) (k:Rd w e0 q f ds):
  Calls Tryz.prog 108 #[.int .i64 t,.slice a n c,.slice b m d,.slice e0 q f] w λe w'=>GtmA t xs ys ds n m q w e w':=by
 have al:=h.max;have am:=g.max;have an:=k.max;have hc:=h.cap;have gc:=g.cap;have kc:=k.cap;unfold maxLen at al am an;by_cases h1:t<0
 ·go_enter Tryz.func108,Tryz.ntmps108;go_wp2;go_ret3;exact ⟨.inl ⟨1,by omega,.inl ⟨.inl h1,rfl⟩,rfl⟩,Below.refl _ _⟩
 ·by_cases h2:4<t
  ·go_enter Tryz.func108,Tryz.ntmps108;go_wp2;go_ret3;exact ⟨.inl ⟨1,by omega,.inl ⟨.inr h2,rfl⟩,rfl⟩,Below.refl _ _⟩
  ·obtain ⟨k4,rfl⟩:∃k:Nat,t=k:=⟨t.toNat,by omega⟩;have HT:Hid (((k4:Nat):Int).toNat=k4):=by unfold Hid;omega
   go_enter Tryz.func108,Tryz.ntmps108;go_wp2_with fail;refine (cBothMul _ _ _ _ _ _ _ _ _ h g).mono ?_;rintro e w1 ⟨⟨hn,rfl⟩ | ⟨hn,v,rfl,ho⟩,hb⟩
   ·have HG:Hid (Gme k4 n m q 5):=.inr ⟨⟨by omega,by omega⟩,.inl ⟨hn,rfl⟩⟩;clear hn;go_wp2;go_ret3;exact ⟨.inl ⟨5,by omega,HG.out,rfl⟩,hb⟩
   ·have HY:=hid hn;clear hn;obtain rfl:m=n:=HY.out.2;have ao:=HY.out.1.1;have af:=HY.out.1.2;change w1.ownsRow _ _ _ _ _ ((pps xs ys m).map (Value.int .u64)) at ho;obtain ⟨av,cv,rfl,aa,_⟩:=Rd.own ho (pps_bd xs ys m);clear ho;by_cases h3:m<2*k4+1
    ·have HG:Hid (Gme k4 m m q 4):=.inr ⟨⟨by omega,by omega⟩,.inr ⟨HY.out,.inl ⟨by omega,rfl⟩⟩⟩;clear aa;go_wp2;go_ret3;exact ⟨.inl ⟨4,by omega,HG.out,rfl⟩,hb⟩
    ·obtain ⟨P,HP⟩:=nmd (m*k4);have hP:(m:Int)*(k4:Int)=(P:Int):=by rw [<- HP.out];push_cast;rfl
     have ax:P<=36:=by rw [<- HP.out];exact Nat.le_trans (Nat.mul_le_mul af (show k4<=4 by omega)) (by omega)
     by_cases hq:q=P
     ·have ah:((q:Int) != (P:Int))=false:=by rw [bne_eq_false_iff_eq];omega
      have HQ:Hid (q=m*k4):=by unfold Hid;rw [HP.out];exact hq
      have HG:Hid (Gme k4 m m q 0):=.inr ⟨⟨by omega,by omega⟩,.inr ⟨HY.out,.inr ⟨by omega,.inr ⟨by rw [hP];omega,rfl⟩⟩⟩⟩;clear hq;go_wp2_with fail;refine (cDealAll _ _ _ _ _ _ _ _ _ _ aa (k.below hb) (by omega) (by omega) af HQ.out).mono ?_;rintro e w2 ⟨u,L,rfl,hL,ai⟩;rw [pps_all] at hL;have ab:=hL.base hb.size;have ad:=btr hb ai;clear hL ai hP aa ah;have aj:Hid (∀j,j<m->((tmG k4 xs ys ds m).getD j []).length=m):=λj hj=>by rw [tmG_getD k4 xs ys ds hj,tmR_len]
      obtain ⟨au,cu,rfl,ak⟩:=ab.rdR (tmG_len k4 xs ys ds m) (λj hj=>by rw [tmG_getD k4 xs ys ds hj];exact bd_u64 (tmR_bd k4 xs ys ds m j));go_wp2_with fail;refine (cWeigh _ _ _ _ _ ak ao af aj.out).mono ?_;rintro e w3 ⟨v3,rfl,ae,ag⟩;rw [pps_out] at ae;have ap:=own_baseV ae ad.size;have aq:=ab.below ag;have ar:Hid (∀i,(L.getD i (.slice none 0 0)).ownBlock=none\/(L.getD i (.slice none 0 0)).ownBlock≠v3.ownBlock):=λi=>by
       cases hbk:(L.getD i (.slice none 0 0)).ownBlock with
       | none=>exact .inl rfl
       | some g=>
        right;intro e;have h1:=(ab.blk i g hbk).2;have h2:=(ae.lt g e.symm).1;omega
      have aw:=btr ad ag;clear ae ab ad ag ak aj;go_wp2;go_ret3;exact ⟨.inr ⟨HG.out,v3,_,L,rfl,by rw [HT.out];exact ap,by rw [HT.out];exact aq,ar.out⟩,aw⟩
     ·have ah:((q:Int) != (P:Int))=true:=by rw [bne_iff_ne];omega
      have HG:Hid (Gme k4 m m q 1):=.inr ⟨⟨by omega,by omega⟩,.inr ⟨HY.out,.inr ⟨by omega,.inl ⟨by rw [hP];omega,rfl⟩⟩⟩⟩;clear hq aa;go_wp2;go_ret3;exact ⟨.inl ⟨1,by omega,HG.out,rfl⟩,hb⟩
theorem cGMul (t a n c xs b m d ys e0 q f ds w) (h:Rd w a n c xs) (g:Rd w b m d ys) (k:Rd w e0 q f ds):
  Calls Tryz.prog 108 #[.int .i64 t,.slice a n c,.slice b m d,.slice e0 q f] w λe w'=>Gtm t xs ys ds n m q w e w':=
 (cGMulA t a n c xs b m d ys e0 q f ds w h g k).mono λ_ _ h=>h.rd
theorem cKeepK (p G s a c l w) (h:Kst w p G s) (r:Rd w a s.n c l) (hl:∀x ∈ l,0<=x/\x<=2147483646) (hG:∀x,a=some x->G x.block) (hlast:s.last<=1000000):
  Calls Tryz.prog 103 #[.pointer (some ⟨p,0,none⟩),.slice a s.n c] w (Kke p G (kadd s l) w):=by
 have H0:=hid h;obtain ⟨⟨b,V,hS,hF⟩,af⟩:=h;obtain ⟨c0,c1,c2,c3⟩:=hS.four;have ao:=hS.lt;have hM:=hS.map;by_cases hc:8<=s.cnt
 ·have HE:Hid (kadd s l=(0,2,s)):=if_pos hc;have aj:(8:Int)<=(s.cnt:Int):=by omega
  go_enter Tryz.func103,Tryz.ntmps103;go_wp2_with (at_len;refine wpList_lenK _ rfl _ 122 rfl 52 Tryz.underlying122 b s.cnt V rfl hM ?_);go_ret2;rw [HE.out];exact ⟨rfl,H0.out.below (Below.refl _ _),Tch.refl _ _⟩
 ·have HE:Hid (kadd s l=((s.last:Int)+1,0,kput s l)):=if_neg hc;have aj:¬ ((8:Int)<=(s.cnt:Int)):=by omega
  obtain ⟨L1,ak⟩:=nmd ((s.last:Int)+1);have ad:(s.last:Int)+1=L1:=ak.out;have ap:1<=L1/\L1<=1000001:=by omega
  have aq:=frozen_of_row w p 2 _ _ hS.row;have aa:=heap_setCell_same w p 2 _ _ (.int .i64 L1) hS.row;have al:MapI (w.setCell ⟨p,2,none⟩ (.int .i64 L1)) b s.cnt V:=hM.block (heap_setCell_other w ⟨p,2,none⟩ b _ hS.ne);have d2:(w.setCell ⟨p,2,none⟩ (.int .i64 L1)).cell? ⟨p,2,none⟩=some (.int .i64 L1):=by rw [cell_of_row _ p 2 _ _ (0,0) aa];simp
  have d3:(w.setCell ⟨p,2,none⟩ (.int .i64 L1)).cell? ⟨p,3,none⟩=some (.map (some b)):=by rw [cell_of_row _ p 3 _ _ (0,0) aa];simp
  have ai:p<(w.setCell ⟨p,2,none⟩ (.int .i64 L1)).heap.size:=(Array.getElem?_eq_some_iff.1 aa).1;obtain ⟨w',am,ag,ah⟩:=(show MapI (w.setCell ⟨p,2,none⟩ (.int .i64 L1)).drew b s.cnt V from al).store (t:=122) Tryz.underlying122 (by have:=hS.wf.c8;omega) (k:=L1) ⟨by omega,by omega⟩ (.slice a s.n c);have ab:=ah.grown;have hk:∀i,i<w.heap.size->i≠p->i≠b->w'.heap[i]? = w.heap[i]?:=λi hi h1 h2=>by
   rw [ab.block i (by simpa using hi) (by simpa using h2)];exact heap_setCell_other w ⟨p,2,none⟩ i _ h1
  have ae:w'.heap[p]? = some (.cells #[.int .i64 s.n,.int .i64 s.t,.int .i64 L1,.map (some b)] 142 (0,0)):=by
   rw [ab.block p ai (by simpa using hS.ne.symm)];refine aa.trans ?_;simp
  have HP:Hid (Sto 142 w' p b (mset V ((s.last:Int)+1) (some (.slice a s.n c))) (kput s l)):=by
   refine hS.put (by omega) hl r (by rw [ad];exact ag) (by rw [ad];exact ae) hk
  have ar:w.heap.size<=w'.heap.size:=Nat.le_trans (by simp) ab.size;have HX:Hid (Stx 142 w' p (Gnx G w w') (kput s l)):=by
   refine ⟨⟨b,_,HP.out,λi hi=>.inl ?_⟩,Gnx.lt af (by omega)⟩
   rcases hi with rfl | rfl | ⟨hh,a',m,c',e,rfl⟩
   ·exact hF _ (.inl rfl)
   ·exact hF _ (.inr (.inl rfl))
   ·unfold mset at e;split at e
    ·simp only [Option.some.injEq,Value.slice.injEq] at e;exact hG a' e.1
    ·exact hF _ (.inr (.inr ⟨hh,a',m,c',e,rfl⟩))
  have HT:Hid (Tch w w' G):=⟨ab.os,ab.tape,ab.output,by omega,λi hi hn=>hk i hi (λe=>hn (hF _ (.inl e))) (λe=>hn (hF _ (.inr (.inl e))))⟩;have au:w'.cell? ⟨p,2,none⟩=some (.int .i64 L1):=by rw [cell_of_row _ p 2 _ _ (0,0) ae];rfl
  have an:p<w'.heap.size:=by omega
  clear ab ah hk ae ag aa hF af hG hc;go_enter Tryz.func103,Tryz.ntmps103;go_wp2_with (at_len;refine wpList_lenK _ rfl _ 122 rfl 52 Tryz.underlying122 b s.cnt V rfl hM ?_);go_region
  all_goals
   go_wp2;go_ret2;rw [HE.out,ad];exact ⟨rfl,HX.out,HT.out⟩
theorem cWith (p G s a c l) (x:Int) (ad cd ds w) (h:Kst w p G s) (r:Rd w a s.n c l) (hx0:0<=x) (hx1:x<=18446744073709551615) (rd:Rd w ad s.t cd ds):
  Calls Tryz.prog 102 #[.pointer (some ⟨p,0,none⟩),.slice a s.n c,.int .u64 x,.slice ad s.t cd] w λe w'=>∃v,e = .returned v/\w'.ownsRow w.heap.size 70 1 v s.n ((mxl l (dl (x :: ds) s.n) 1 1 0 s.n).map (Value.int .u64))/\Below w.heap.size w w':=by
 have hw:=h.wf;have ab:=hw.t4;have ae:=hw.n9;have af:=hw.nt;obtain ⟨⟨b,V,hS,_⟩,_⟩:=h;obtain ⟨c0,c1,c2,c3⟩:=hS.four;have al:=hS.lt;clear hS hw;obtain ⟨n,HN⟩:=nmd s.n;obtain ⟨t,HT⟩:=nmd s.t;rw [HN.out] at c0 ae af r ⊢;rw [HT.out] at c1 ab af rd ⊢;go_enter Tryz.func102,Tryz.ntmps102;go_wp2_with fail;refine (cDealB x _ _ _ ds n _ rd hx0 hx1 ab (by omega) ae).mono ?_;rintro e w1 ⟨v1,rfl,ag,aa⟩;obtain ⟨a1,k1,rfl,ah,_⟩:=Rd.own ag (bd_u64 (dl_bd _ _));have r1:=r.below aa;clear ag c0 c1 c2 c3 al;go_wp2_with fail;refine (cGAdd _ _ _ _ _ _ _ _ _ r1 ah).mono ?_;rintro e w2 ⟨⟨ak,_⟩ | ⟨_,v2,rfl,ai⟩,aj⟩
 ·exact absurd ⟨⟨by omega,by omega⟩,rfl⟩ ak
 have am:=own_baseV ai aa.size;have an:=btr aa aj;clear ai aa aj ah r1;go_wp2;go_ret;exact ⟨v2,rfl,am,an⟩
def Kbo (s:Kt) (g x:Int) (w:World) (e:Ending) (w':World):Prop:=
 (((s.f g=none\/s.f x=none)/\∃v u,e = .returned (.tuple #[v,u,.bool false]))\/∃l m ag cg ax cx,s.f g=some l/\s.f x=some m/\e = .returned (.tuple #[.slice ag s.n cg,.slice ax s.n cx,.bool true])/\Rd w' ag s.n cg l/\Rd w' ax s.n cx m)/\Below w.heap.size w w'
theorem cBothK (p G s g x w) (h:Kst w p G s) (hg:i64r g) (hx:i64r x):
  Calls Tryz.prog 105 #[.pointer (some ⟨p,0,none⟩),.int .i64 g,.int .i64 x] w (Kbo s g x w):=by
 obtain ⟨⟨b,V,hS,_⟩,_⟩:=h;obtain ⟨c0,c1,c2,c3⟩:=hS.four;have aa:=hS.lt;have hM:=hS.map;rcases hS.val g with ⟨fg,vg⟩ | ⟨l,ag,cg,fg,vg,rg⟩
 ·have HE:Hid (s.f g=none\/s.f x=none):=.inl fg;have HV:=hid vg;clear hS fg vg;go_enter Tryz.func105,Tryz.ntmps105;go_wp2_with (at_lookup;refine wpList_lookK _ rfl _ _ 122 rfl 52 Tryz.underlying122 _ (zeroL _) b s.cnt V rfl hM g rfl hg ?_;rw [HV.out];simp only [Option.getD_none,Option.isSome_none]);go_ret3;exact ⟨.inl ⟨HE.out,_,_,rfl⟩,Below.refl _ _⟩
 ·have HV:=hid vg;rcases hS.val x with ⟨fx,vx⟩ | ⟨m,ax,cx,fx,vx,rx⟩
  ·have HE:Hid (s.f g=none\/s.f x=none):=.inr fx;have HX:=hid vx;clear hS fg vg fx vx;go_enter Tryz.func105,Tryz.ntmps105;go_wp2_with (at_lookup;first | (refine wpList_lookK _ rfl _ _ 122 rfl 52 Tryz.underlying122 _ (zeroL _) b s.cnt V rfl hM g rfl hg ?_;rw [HV.out];simp only [Option.getD_some,Option.isSome_some]) | (refine wpList_lookK _ rfl _ _ 122 rfl 52 Tryz.underlying122 _ (zeroL _) b s.cnt V rfl hM x rfl hx ?_;rw [HX.out];simp only [Option.getD_none,Option.isSome_none]));go_ret3;exact ⟨.inl ⟨HE.out,_,_,rfl⟩,Below.refl _ _⟩
  ·have HX:=hid vx;have HF:Hid (s.f g=some l/\s.f x=some m):=⟨fg,fx⟩;clear hS fg vg fx vx;go_enter Tryz.func105,Tryz.ntmps105;go_wp2_with (at_lookup;first | (refine wpList_lookK _ rfl _ _ 122 rfl 52 Tryz.underlying122 _ (zeroL _) b s.cnt V rfl hM g rfl hg ?_;rw [HV.out];simp only [Option.getD_some,Option.isSome_some]) | (refine wpList_lookK _ rfl _ _ 122 rfl 52 Tryz.underlying122 _ (zeroL _) b s.cnt V rfl hM x rfl hx ?_;rw [HX.out];simp only [Option.getD_some,Option.isSome_some]));go_ret3;exact ⟨.inr ⟨l,m,ag,cg,ax,cx,HF.out.1,HF.out.2,rfl,rg,rx⟩,Below.refl _ _⟩
theorem cNewK:KcNew:=by
 intro n t w hn ht;have ae:=@run_makeMap Tryz.prog;unfold i64r at hn ht;by_cases h0:t<0
 ·have HB:Hid (¬ ((0<=t/\t<=4)/\n<=9/\2*t+1<=n)):=by unfold Hid;omega
  go_enter Tryz.func115,Tryz.ntmps115;go_wp2;go_ret2;exact ⟨.inl ⟨HB.out,rfl⟩,Below.refl _ _⟩
 by_cases h1:4<t
 ·have HB:Hid (¬ ((0<=t/\t<=4)/\n<=9/\2*t+1<=n)):=by unfold Hid;omega
  go_enter Tryz.func115,Tryz.ntmps115;go_wp2;go_ret2;exact ⟨.inl ⟨HB.out,rfl⟩,Below.refl _ _⟩
 by_cases h2:n<2*t+1
 ·have HB:Hid (¬ ((0<=t/\t<=4)/\n<=9/\2*t+1<=n)):=by unfold Hid;omega
  go_enter Tryz.func115,Tryz.ntmps115;go_wp2;go_ret2;exact ⟨.inl ⟨HB.out,rfl⟩,Below.refl _ _⟩
 by_cases h3:9<n
 ·have HB:Hid (¬ ((0<=t/\t<=4)/\n<=9/\2*t+1<=n)):=by unfold Hid;omega
  go_enter Tryz.func115,Tryz.ntmps115;go_wp2;go_ret2;exact ⟨.inl ⟨HB.out,rfl⟩,Below.refl _ _⟩
 obtain ⟨t',rfl⟩:∃k:Nat,t=k:=⟨t.toNat,by omega⟩;obtain ⟨n',rfl⟩:∃k:Nat,n=k:=⟨n.toNat,by omega⟩;have aa:t'<=4:=by omega
 have ab:n'<=9:=by omega
 have ad:2*t'+1<=n':=by omega
 obtain ⟨hX,hB⟩:=sto_new w aa ab ad 142 rfl;have HX:=hid hX;have HB:=hid hB;clear hX hB;go_enter Tryz.func115,Tryz.ntmps115;go_wp2;go_ret2;exact ⟨.inr ⟨n',t',_,_,rfl,rfl,aa,ab,ad,rfl,HX.out,λi hi=>hi.1⟩,HB.out⟩
theorem cTweakK:KcTweak:=by
 intro p G s x u w h hx ai aj ad;have HH:=hid h;have am:=h.wf.n9;have an:=h.wf.nt;have ak:=h.lt;obtain ⟨⟨b,V,hS,_⟩,_⟩:=h;obtain ⟨c0,c1,c2,c3⟩:=hS.four;have al:=hS.lt;have hM:=hS.map;rcases hS.val x with ⟨fx,vx⟩ | ⟨l,ax,cx,fx,vx,rx⟩
 ·have HE:Hid (kmix s x x 1 0 u=(0,4,s)):=by unfold Hid kmix;rw [fx]
  have HV:=hid vx;clear hS fx vx;go_enter Tryz.func55,Tryz.ntmps55;go_wp2_with (at_lookup;refine wpList_lookK _ rfl _ _ 122 rfl 52 Tryz.underlying122 _ (zeroL _) b s.cnt V rfl hM x rfl hx ?_;rw [HV.out];simp only [Option.getD_none,Option.isSome_none]);go_ret2;rw [HE.out];exact ⟨rfl,HH.out.below (Below.refl _ _),Tch.refl _ _⟩
 ·have HE:Hid (kmix s x x 1 0 u=kadd s (mxl l l 1 0 u s.n)):=by unfold Hid kmix;rw [fx]
  have HV:=hid vx;clear hS fx vx;go_enter Tryz.func55,Tryz.ntmps55;go_wp2_with (at_lookup;refine wpList_lookK _ rfl _ _ 122 rfl 52 Tryz.underlying122 _ (zeroL _) b s.cnt V rfl hM x rfl hx ?_;rw [HV.out];simp only [Option.getD_some,Option.isSome_some]);refine (cGPlus _ _ _ _ _ _ rx ai aj).mono ?_;rintro e w1 ⟨⟨ah,_⟩ | ⟨_,v1,rfl,ae⟩,aa⟩
  ·exact absurd ⟨by omega,by omega⟩ ah
  obtain ⟨a1,k1,rfl,ab,af⟩:=Rd.own ae (bd_u64 (mxl_bd _ _ _ _ _ _));have ag:=gnx_new (G:=G) ab (by omega) af;have h1:=HH.out.below aa;clear ae af c0 c1 c2 c3 al hM;go_wp2_with fail;refine (cKeepK p _ s _ _ _ _ h1 ab (mxl_bd _ _ _ _ _ _) ag ad).mono ?_;intro e w2 hK;have HR:Hid (Kke p G (kadd s (mxl l l 1 0 u s.n)) w e w2):=Kde.behind aa hK ak;obtain ⟨rfl,_,_⟩:=hK;clear h1 ab ag aa;go_wp2;go_ret2;rw [HE.out];exact HR.out
theorem cCombineK:KcCombine:=by
 intro p G s g x u v w h hg hx ay az aA aB al;have aD:=h.wf.n9;have aE:=h.wf.nt;have aC:=h.lt;go_enter Tryz.func57,Tryz.ntmps57;go_wp2_with fail;refine (cBothK p G s g x w h hg hx).mono ?_;rintro e w1 ⟨⟨am,v1,u1,rfl⟩ | ⟨l,m,ag,cg,ax,cx,fg,fx,rfl,rg,rx⟩,ad⟩
 ·have HE:Hid (kmix s g x u v 0=(0,4,s)):=by
   unfold Hid kmix;rcases am with e | e
   ·rw [e]
   ·rw [e];cases s.f g <;> rfl
  clear am;go_wp2;go_ret2;rw [HE.out];exact ⟨rfl,h.below ad,Tch.of_below ad⟩
 ·have HE:Hid (kmix s g x u v 0=kadd s (mxl l m u v 0 s.n)):=by unfold Hid kmix;rw [fg,fx]
  clear fg fx;go_wp2_with fail;refine (cGScale _ _ _ _ _ _ rg ay az).mono ?_;rintro e w2 ⟨⟨aa,_⟩ | ⟨_,v2,rfl,an⟩,af⟩
  ·exact absurd ⟨by omega,by omega⟩ aa
  obtain ⟨a2,k2,rfl,ao,_⟩:=Rd.own an (bd_u64 (mxl_bd _ _ _ _ _ _));have ap:=rx.below af;clear an rx rg;go_wp2_with fail;refine (cGScale _ _ _ _ _ _ ap aA aB).mono ?_;rintro e w3 ⟨⟨aa,_⟩ | ⟨_,v3,rfl,aq⟩,ah⟩
  ·exact absurd ⟨by omega,by omega⟩ aa
  obtain ⟨a3,k3,rfl,ar,_⟩:=Rd.own aq (bd_u64 (mxl_bd _ _ _ _ _ _));have ai:=ao.below ah;clear aq ap ao;go_wp2_with fail;refine (cGAdd _ _ _ _ _ _ _ _ _ ai ar).mono ?_;rintro e w4 ⟨⟨aa,_⟩ | ⟨_,v4,rfl,aj⟩,au⟩
  ·exact absurd ⟨⟨by omega,by omega⟩,rfl⟩ aa
  rw [mxl_two] at aj;have ab:=ad.trans ((btr af ah).mono ad.size);have ae:=btr ab au;obtain ⟨a4,k4,rfl,ak,av⟩:=Rd.own aj (bd_u64 (mxl_bd _ _ _ _ _ _));have aw:=gnx_new (G:=G) ak (by omega) (λy hy=>Nat.le_trans ab.size (av y hy));have h4:=h.below ae;clear aj av ai ar ad af ah au ab;go_wp2_with fail;refine (cKeepK p _ s _ _ _ _ h4 ak (mxl_bd _ _ _ _ _ _) aw al).mono ?_;intro e w5 hK;have HR:Hid (Kke p G (kadd s (mxl l m u v 0 s.n)) w e w5):=Kde.behind ae hK aC;obtain ⟨rfl,_,_⟩:=hK;clear h4 ak aw ae;go_wp2;go_ret2;rw [HE.out];exact HR.out
theorem cMultiplyK:KcMultiply:=by
 intro p G s g x ad q cd ds w h hg hx r aj;have aq:=h.wf.t4;have ar:=h.wf.n9;have au:=h.wf.nt;have ap:=h.lt;have ae:=r.len;go_enter Tryz.func59,Tryz.ntmps59;go_wp2_with fail;refine (cBothK p G s g x w h hg hx).mono ?_;rintro e w1 ⟨⟨ak,v1,u1,rfl⟩ | ⟨l,m,ag,cg,ax,cx,fg,fx,rfl,rg,rx⟩,aa⟩
 ·have HE:Hid (kmul s g x ds=(0,4,s)):=by
   unfold Hid kmul;rcases ak with e | e
   ·rw [e]
   ·rw [e];cases s.f g <;> rfl
  clear ak;go_wp2;go_ret2;rw [HE.out];exact ⟨rfl,h.below aa,Tch.of_below aa⟩
 ·obtain ⟨⟨b,V,hS,_⟩,_⟩:=h.same aa;obtain ⟨c0,c1,c2,c3⟩:=hS.four;have al:=hS.lt;have rd:=r.below aa;have HK:Hid (kmul s g x ds=if ds.length=s.n*s.t then kadd s (tmO s.t l m ds s.n s.n) else (0,1,s)):=by unfold Hid kmul;rw [fg,fx]
  clear hS fg fx;go_wp2_with fail;refine (cGMul _ _ _ _ _ _ _ _ _ _ _ _ _ _ rg rx rd).mono ?_;rintro e w2 ⟨⟨ε,hε,hG,rfl⟩ | ⟨hG,v2,u2,L2,rfl,af,_⟩,ah⟩
  ·have ab:=btr aa ah;obtain ⟨rfl,am⟩:ε=1/\ds.length≠s.n*s.t:=by
    rcases hG with ⟨h1,_⟩ | ⟨_,⟨h1,_⟩ | ⟨_,⟨h1,_⟩ | ⟨_,⟨h1,e1⟩ | ⟨_,e1⟩⟩⟩⟩
    ·exfalso;omega
    ·exact absurd ⟨⟨by omega,by omega⟩,rfl⟩ h1
    ·exfalso;omega
    ·refine ⟨e1,λe=>h1 ?_⟩
     rw [<- ae,e];push_cast;rfl
    ·exact absurd e1 hε
   have HE:Hid (kmul s g x ds=(0,1,s)):=by unfold Hid;rw [HK.out,if_neg am]
   clear hG am hε c0 c1 c2 c3 al rg rx rd;go_wp2;go_ret2;rw [HE.out];exact ⟨rfl,h.below ab,Tch.of_below ab⟩
  ·obtain ⟨k,hk,_,_,_,_,_,hq⟩:=hG.ok;obtain rfl:k=s.t:=by omega
   have HE:Hid (kmul s g x ds=kadd s (tmO s.t l m ds s.n s.n)):=by unfold Hid;rw [HK.out,if_pos (by rw [ae];exact hq)]
   have e0:((s.t:Int)).toNat=s.t:=rfl;rw [e0] at af;obtain ⟨a2,k2,rfl,ai,an⟩:=Rd.own af (bd_u64 (tmO_bd' _ _ _ _ _ _));have ab:=btr aa ah;have ao:=gnx_new (G:=G) ai (by omega) (λy hy=>Nat.le_trans aa.size (an y hy));have h2:=h.below ab;clear af an hG hk hq e0 c0 c1 c2 c3 al rg rx rd aa ah;go_wp2_with fail;refine (cKeepK p _ s _ _ _ _ h2 ai (tmO_bd' _ _ _ _ _ _) ao aj).mono ?_;intro e w5 hK;have HR:Hid (Kke p G (kadd s (tmO s.t l m ds s.n s.n)) w e w5):=Kde.behind ab hK ap;obtain ⟨rfl,_,_⟩:=hK;clear h2 ai ao ab;go_wp2;go_ret2;rw [HE.out];exact HR.out
theorem cDropK:KcDrop:=by
 intro p G s x w h hx;have HH:=hid h;obtain ⟨⟨b,V,hS,hF⟩,ab⟩:=h;obtain ⟨c0,c1,c2,c3⟩:=hS.four;have ae:=hS.lt;have hM:=hS.map;rcases hS.val x with ⟨fx,vx⟩ | ⟨l,ax,cx,fx,vx,rx⟩
 ·have HE:Hid (kdrp s x=(4,s)):=by unfold Hid kdrp;rw [fx]
  have HV:=hid vx;clear hS fx vx;go_enter Tryz.func64,Tryz.ntmps64;go_wp2_with (at_lookup;refine wpList_lookK _ rfl _ _ 122 rfl 52 Tryz.underlying122 _ (zeroL _) b s.cnt V rfl hM x rfl hx ?_;rw [HV.out];simp only [Option.getD_none,Option.isSome_none]);go_ret;rw [HE.out];exact ⟨rfl,HH.out.below (Below.refl _ _),Tch.refl _ _⟩
 ·have HE:Hid (kdrp s x=(0,kout s x)):=by unfold Hid kdrp;rw [fx]
  have HF:=hid fx;have HV:=hid vx;have HS:=hid hS;clear hS fx vx rx;go_enter Tryz.func64,Tryz.ntmps64;go_wp2_with (first | (at_lookup;refine wpList_lookK _ rfl _ _ 122 rfl 52 Tryz.underlying122 _ (zeroL _) b s.cnt V rfl hM x rfl hx ?_;rw [HV.out];simp only [Option.getD_some,Option.isSome_some]) | (at_delete;refine wpList_delK _ rfl _ _ 122 rfl 52 Tryz.underlying122 b s.cnt V rfl hM x rfl hx ?_;intro w2 ad aa));have hk:∀i,i<w.heap.size->i≠b->w2.heap[i]? = w.heap[i]?:=λi hi hne=>aa.block i hi (by simpa using hne);have HP:=HS.out.out HF.out ad hk;have HR:Hid (Kkt p G (0,kout s x) w (.returned (.int .i64 0)) w2):=by
   refine ⟨rfl,⟨⟨b,_,HP,λi hi=>.inl ?_⟩,Gnx.lt ab aa.size⟩,⟨aa.os,aa.tape,aa.output,aa.size,λi hi hn=>hk i hi (λe=>hn (hF _ (.inr (.inl e))))⟩⟩
   rcases hi with rfl | rfl | ⟨hh,a',m,c',e,rfl⟩
   ·exact hF _ (.inl rfl)
   ·exact hF _ (.inr (.inl rfl))
   ·unfold mset at e;split at e
    ·cases e
    ·exact hF _ (.inr (.inr ⟨hh,a',m,c',e,rfl⟩))
  clear hM ad aa hk HP c0 c1 c2 c3 ae hF ab;go_wp2;go_ret;rw [HE.out];exact HR.out
theorem take_own (ds:List Int) (A t:Nat):((((ds.drop A).take (t+1)).drop 1).take t)=(ds.drop (A+1)).take t:=by
 rw [List.drop_take,List.drop_drop,List.take_take];congr 1;omega
theorem take_first {ds:List Int} {A t:Nat}:((ds.drop A).take (t+1)).getD 0 0=ds.getD A 0:=by
 simp [List.getD_eq_getElem?_getD]
theorem cGenK:KcGen:=by
 intro p G s a m c ds w h r am;obtain ⟨i0,hi,aI,aJ,aK⟩:=info_parts info70;have hw:=h.wf;have aL:=hw.t4;have ao:=hw.n9;have ap:=hw.nt;have a2:=r.cap;have aF:=r.max;have ai:=r.len;unfold maxLen at aF;have aM:=h.lt;have HH:Hid (∀w',Below w.heap.size w w'->Kst w' p G s):=λw' hb=>h.same hb;obtain ⟨n,HN⟩:=nmd s.n;obtain ⟨t,HT⟩:=nmd s.t;rw [HN.out] at ao ap;rw [HT.out] at aL ap;have HC:Hid (∀w',Below w.heap.size w w'->w'.cell? ⟨p,0,none⟩=some (.int .i64 (n:Int))/\w'.cell? ⟨p,1,none⟩=some (.int .i64 (t:Int))/\p<w'.heap.size):=λw' hb=>by
  obtain ⟨⟨b,V,hS,_⟩,_⟩:=HH.out w' hb;have:=hS.four;rw [HN.out,HT.out] at this;exact ⟨this.1,this.2.1,hS.lt⟩
 clear h hw;obtain ⟨c0,c1,ag⟩:=HC.out w (Below.refl _ _);obtain ⟨T1,ae⟩:=nmd (t+1);have a5:(t:Int)+1=(T1:Int):=by rw [<- ae.out];omega
 have a6:1<=T1/\T1<=5:=by rw [<- ae.out];omega
 obtain ⟨M,HM⟩:=nmd (n*T1);have a7:(n:Int)*(T1:Int)=(M:Int):=by rw [<- HM.out];push_cast;rfl
 have a3:M<=45:=by rw [<- HM.out];exact Nat.mul_le_mul ao (show T1<=5 by omega)
 have a8:IntKind.i64.wrap ((T1:Int))=(T1:Int):=by rw [IntKind.wrap_i64];omega
 have a9:IntKind.i64.wrap ((M:Int))=(M:Int):=by rw [IntKind.wrap_i64];omega
 have aq:Hid (s.n*(s.t+1)=M):=by unfold Hid;rw [HN.out,HT.out,ae.out,HM.out]
 have ba:((n:Int)==0)=false:=by rw [beq_eq_false_iff_ne];omega
 by_cases hm:m=M
 ·subst hm;have HG:Hid (kgen s ds=kadd s (ksm s.n s.t true ds s.n)):=if_pos (by rw [ai,aq.out]);have aN:((m:Int) != (m:Int))=false:=by simp
  go_enter Tryz.func50,Tryz.ntmps50;go_wp2_with (at_make;refine wpList_make_full _ rfl _ _ 52 rfl w.heap.size 70 i0 (.int .u64 0) 1 Tryz.underlying52 hi aI aJ .i64 .i64 _ _ n rfl rfl rfl rfl (by rw [aK];omega) (by unfold maxLen;omega) (Nat.le_refl _) ?_;intro w2 ab ah;have aj:Below w.heap.size w w2:=(Below.refl _ _).grown ah (Nat.le_refl _) (by simp);obtain ⟨d0,d1,aG⟩:=HC.out w2 aj);have ar:w2.ownsRow w.heap.size 70 1 (.slice (some ⟨w.heap.size,0,none⟩) n n) n ((ksm n t true ds 0).map (Value.int .u64)):=(Blk.made ab).own (by simp) (Nat.le_refl _) (by omega);clear ab ah d0 d1 aG;go_loopw [7,40] (λv j wr=>∃i:Nat,i<=n/\j = .int .i64 i/\wr.ownsRow w.heap.size 70 1 v n ((ksm n t true ds i).map (Value.int .u64))/\Below w.heap.size w wr) (λ_ j _=>n-(intOf j).toNat)
  case atStart=>exact ⟨0,Nat.zero_le _,rfl,ar,aj⟩
  case round=>
   clear ar aj c0 c1 ag;obtain ⟨i,bc,rfl,ab,aa⟩:=hrel;obtain ⟨c0,c1,ag⟩:=HC.out wr aa;have au:=aa.size;by_cases hlt:i<n
   ·have a4:(i:Int)<(n:Int):=by omega
    obtain ⟨A,HA⟩:=nmd (i*T1);have aO:(i:Int)*(T1:Int)=(A:Int):=by rw [<- HA.out];push_cast;rfl
    have be:((i:Int)+1)*(T1:Int)=(A:Int)+(T1:Int):=by rw [Int.add_mul,aO,Int.one_mul]
    have aP:A+T1<=m:=by
     rw [<- HA.out,<- HM.out];have:=Nat.mul_le_mul_right T1 (show i+1<=n by omega);rw [Nat.add_mul,Nat.one_mul] at this;exact this
    have rr:=r.below aa;have aQ:Hid (mxl (ksm n t true ds i) (dl (kdr t true ds i) n) 1 1 0 n=ksm n t true ds (i+1)):=rfl;obtain ⟨u,c',rfl,af,_⟩:=Rd.own ab (bd_u64 (ksm_ksh n t true ds i).bd);have ad:=rr.sub (lo:=A) (k:=T1) aP;obtain ⟨sa,av⟩:=nmd (subA a c A);have hsl:∀W,(Instr.sliceAt 52 (.slice a m c) (some (.int .i64 (A:Int))) (some (.int .i64 ((A:Int)+(T1:Int)))) none).run Tryz.prog W = .ok (.slice sa T1 (c-A)) W:=λW=>by
     rw [<- av.out];exact run_sub Tryz.underlying52 infoU1 _ m c A T1 rfl rfl (by omega) W
    rw [av.out] at ad;obtain ⟨L,HL⟩:=nmd ((ds.drop A).take T1);rw [HL.out] at ad;obtain ⟨C,aR⟩:=nmd (c-A);rw [aR.out] at ad hsl;have ak:=ad.sub (lo:=1) (k:=t) (by rw [<- ae.out];omega);have aS:=ad.len;obtain ⟨bb,o,x,rfl,aT,HX,aU,aV,aw⟩:=ad.one (show 0<T1 by omega);obtain ⟨sb,ax⟩:=nmd (subA (some ⟨bb,o,none⟩) C 1);have aH:∀W,(Instr.sliceAt 52 (.slice (some ⟨bb,o,none⟩) T1 C) (some (.int .i64 1)) none none).run Tryz.prog W = .ok (.slice sb t (C-1)) W:=λW=>by
     rw [<- ax.out];have e:=run_subl Tryz.underlying52 infoU1 (some ⟨bb,o,none⟩) T1 C 1 (l:=1) rfl (by omega) W;rw [show T1-1=t by rw [<- ae.out];omega] at e;exact e
    rw [ax.out] at ak;have aW:Hid (kdr t true ds i=x :: (L.drop 1).take t):=by
     unfold Hid;have e:kat t true i=A:=by unfold kat;rw [if_pos rfl,ae.out,HA.out]
     rw [kdr_true,e,<- HX.out,<- HL.out,<- ae.out,take_own,take_first]
    rw [Nat.add_zero] at aw;have bf:=ad.cap;have aX:=ad.max;unfold maxLen at aX;have bg:(0:Int)<(T1:Int):=by omega
    have aY:=hid af;have aZ:=hid ak;have a0:Hid (∀w0,Kst w0 p G s->Rd w0 u n c' (ksm n t true ds i)->Rd w0 sb t (C-1) ((L.drop 1).take t)->Calls Tryz.prog 102 #[.pointer (some ⟨p,0,none⟩),.slice u n c',.int .u64 x,.slice sb t (C-1)] w0 λe w'=>∃v,e = .returned v/\w'.ownsRow w0.heap.size 70 1 v n ((ksm n t true ds (i+1)).map (Value.int .u64))/\Below w0.heap.size w0 w'):=λw0 k0 k1 k2=>by
     have e:=cWith p G s u c' (ksm n t true ds i) x sb (C-1) ((L.drop 1).take t) w0 k0;rw [HN.out,HT.out,<- aW.out,aQ.out] at e;exact e k1 aU aV k2
    clear rr ad ab af ak aS c0 c1 ag;go_wp2_with fail;go_region_with (go_at_call 102;refine (a0.out _ (HH.out _ aa.drew) aY.out.drew aZ.out.drew).mono ?_;rintro e w3 ⟨v3,rfl,ay,az⟩)
    all_goals
     have aA:Below wr.heap.size wr w3:=((Below.refl _ _).drew).trans (az.mono (Nat.le_refl _));have an:=aa.trans (aA.mono au);have a1:=own_baseV ay au;clear az aA ay aa hsl aH aw aT;go_wp2;go_roundw
     case rel=>exact ⟨i+1,by omega,by go_num,a1,an⟩
     case measure=>simp [intOf];omega
   ·obtain rfl:i=n:=by omega
    have bh:¬ ((i:Int)<(i:Int)):=by omega
    obtain ⟨u,c',rfl,af,aB⟩:=Rd.own ab (bd_u64 (ksm_ksh i t true ds i).bd);have aC:∀y,u=some y->Gnx G w wr y.block:=gnx_new (G:=G) af (by omega) aB;have hK:=(HH.out w (Below.refl _ _)).below aa;clear ab aB;have al:Rd wr u s.n c' (ksm s.n s.t true ds s.n):=by rw [HN.out,HT.out];exact af
    have aD:Hid (Calls Tryz.prog 103 #[.pointer (some ⟨p,0,none⟩),.slice u s.n c'] wr (Kke p (Gnx G w wr) (kadd s (ksm s.n s.t true ds s.n)) wr)):=cKeepK p (Gnx G w wr) s u c' _ wr hK al (ksm_bd _ _ _ _ _) aC am;have aE:Hid (∀Z,s.n=Z->Calls Tryz.prog 103 #[.pointer (some ⟨p,0,none⟩),.slice u Z c'] wr (Kke p (Gnx G w wr) (kadd s (ksm s.n s.t true ds s.n)) wr)):=λZ e=>by rw [<- e];exact aD.out
    clear af al aC hK c0 c1 ag aD;go_wp2_with fail;refine (aE.out _ HN.out).mono ?_;intro e w3 hK;have HR:Hid (Kke p G (kadd s (ksm s.n s.t true ds s.n)) w e w3):=Kde.behind aa hK aM;obtain ⟨rfl,_,_⟩:=hK;clear aE aa;go_wp2;go_ret2;rw [HG.out];exact HR.out
 ·have HG:Hid (kgen s ds=(0,1,s)):=if_neg (by rw [ai,aq.out];exact hm);have aN:((m:Int) != (M:Int))=true:=by rw [bne_iff_ne];omega
  clear hm;go_enter Tryz.func50,Tryz.ntmps50;go_wp2;go_ret2;rw [HG.out];exact ⟨rfl,(HH.out w (Below.refl _ _)).below (Below.refl _ _),Tch.refl _ _⟩
theorem own_set2 {w:World} {B n c g:Nat} {E:TypeId} {xs:List Value} (h:w.ownsRow B E 2 (.slice (some ⟨g,0,none⟩) n c) n xs) (i:Nat) (u:Value):(w.setCell ⟨g,i,none⟩ u).ownsRow B E 2 (.slice (some ⟨g,0,none⟩) n c) n (xs.set i u):=by
 refine ⟨by rw [List.length_set];exact h.1,.inr ?_⟩
 rcases h.2 with ⟨e,_⟩ | ⟨g',aa,ab,e,hb,hg,h1,h2,hs,ht⟩
 ·simp at e
 ·simp only [Value.slice.injEq,Option.some.injEq,Addr.mk.injEq,and_true,true_and] at e;obtain ⟨rfl,rfl⟩:=e;refine ⟨g,c,_,rfl,hb,heap_setCell_same w g i _ _ _ hg,h1,h2,by simpa using hs,?_⟩
  rw [<- ht];simp [List.take_set]
theorem own_frozen2 {w:World} {B n c g:Nat} {E:TypeId} {xs:List Value} (h:w.ownsRow B E 2 (.slice (some ⟨g,0,none⟩) n c) n xs) (i:Nat):w.frozen? ⟨g,i,none⟩=false:=by
 rcases h.2 with ⟨e,_⟩ | ⟨g',aa,ab,e,hb,hg,_⟩
 ·simp at e
 ·simp only [Value.slice.injEq,Option.some.injEq,Addr.mk.injEq,and_true,true_and] at e;obtain ⟨rfl,rfl⟩:=e;exact frozen_of_row w g i _ _ hg
theorem own_at2 {w:World} {base n:Nat} {E:TypeId} {v:Value} {xs:List Value} (h:w.ownsRow base E 2 v n xs) (hn:0<n):∃g c,v = .slice (some ⟨g,0,none⟩) n c/\base<=g/\g<w.heap.size/\n<=c/\c<=maxLen:=by
 rcases h.2 with ⟨_,rfl⟩ | ⟨g,aa,ab,rfl,hb,hg,h1,h2,_⟩
 ·omega
 ·exact ⟨g,aa,rfl,hb,(Array.getElem?_eq_some_iff.1 hg).1,h1,h2⟩
theorem sh_cell {w:World} {base n c g:Nat} {E:TypeId} {l:List (Int×Int)} (h:w.ownsRow base E 2 (.slice (some ⟨g,0,none⟩) n c) n (shc l)) (hl:l.length=n) {k:Nat} (hk:k<n):
  w.cell? ⟨g,k*2,none⟩=some (.int .i64 (l.getD k (0,0)).1)/\w.cell? ⟨g,k*2+1,none⟩=some (.int .u64 (l.getD k (0,0)).2):=by
 have h1:=shc_get l k (by omega);have a1:=h.cells (g:=g) rfl _ _ h1.1;have a2:=h.cells (g:=g) rfl _ _ h1.2;rw [Addr.add_lit] at a1 a2;exact ⟨by simpa using a1,by simpa using a2⟩
theorem step_appM {P:Program} {T E:TypeId} (hT:P.underlying T=some (.slice E)) (info:(P.info? E).map (λi=>(i.zero,i.size,i.bytes))=some (some (.int .u64 0),1,8)) (w:World) {ops:Array Oper} {o:Oper} {a:Act} {K:Act->World->Prop} {Q:Exit->Act->World->Prop} {F:Prop} (hgd:o.guard=none) (s x:Operand) (ho:o.op = .call { callee:=.builtin .append,args:=#[s,x],argTypes:=#[T,T] }) (base:Nat) (v:Value) (n:Nat) (xs:List Int) (hs:a.eval s=v) (hown:w.ownsRow base E 1 v n (xs.map (Value.int .u64))) (b o2:Nat) (m c ys) (hr:Rd w (some ⟨b,o2,none⟩) m c ys) (hx:a.eval x = .slice (some ⟨b,o2,none⟩) m c) (hm:0<m) (hn:n+m<=1000000) (hbase:base<=w.heap.size) (h:∀g cap w',w'.ownsRow base E 1 (.slice (some ⟨g,0,none⟩) (n+m) cap) (n+m) ((xs++ys).map (Value.int .u64))->w.grownBy w' v.ownBlock->((Value.slice (some ⟨g,0,none⟩) (n+m) cap).ownBlock=v.ownBlock\/∃k,(Value.slice (some ⟨g,0,none⟩) (n+m) cap).ownBlock=some k/\w.heap.size<=k)->K (a.put o.dst (.slice (some ⟨g,0,none⟩) (n+m) cap)) w'):
  if Region.wanted o (yielded ops a.tmps)=true then Oper.wp P o a w K Q else F:=by
 obtain ⟨i0,hi,ad,ae,af⟩:=info_parts info;have ag:=hr.len;refine step_append_lies _ hgd s x T ho base E i0 (.int .u64 0) 1 8 hT hi ad ae af rfl (by decide) v n _ hs hown ⟨b,o2,none⟩ m c (ys.map (Value.int .u64)) hx (by simp [ag]) ?_ ?_ hm (by unfold maxLen;omega) (by omega) hbase _ rfl ?_
 ·intro j u hj;have ah:j<m:=by
   have:=(List.getElem?_eq_some_iff.1 hj).1;simp at this;omega
  rw [hr.cell _ rfl j ah];rw [List.getElem?_map,List.getElem?_eq_getElem (by omega)] at hj;simp only [Option.map_some,Option.some.injEq] at hj;rw [<- hj,List.getD_eq_getElem?_getD,List.getElem?_eq_getElem (by omega)];rfl
 ·intro u hu;obtain ⟨z,_,rfl⟩:=List.mem_map.1 hu;rfl
 ·intro g cap w' aa ab h4 _;refine h g cap w' (by rw [List.map_append];exact aa) ab ?_;rcases h4 with e | e
  ·exact .inl (by rw [e];rfl)
  ·exact .inr ⟨g,rfl,by omega⟩
structure Sen (w wr:World) (gs n:Nat) (Ls:List Value) (S:List (List Int)) (vW:Value) (LW:List Value) (W:List (List Int)) (lo hi:Nat):Prop where
 seen:LsV wr w.heap.size (.slice (some ⟨gs,0,none⟩) n n) Ls S
 len:S.length=n
 wires:LsV wr w.heap.size vW LW W
 apt:Apt Ls LW
 out:vW.ownBlock≠some gs
 far:Far Ls n lo hi
 gl:gs<lo
 hi:hi<=wr.heap.size
 bel:Below w.heap.size w wr
theorem Sen.drew {w wr gs n Ls S vW LW W lo hi} (h:Sen w wr gs n Ls S vW LW W lo hi):Sen w wr.drew gs n Ls S vW LW W lo hi:=
 ⟨h.seen.drew,h.len,h.wires.drew,h.apt,h.out,h.far,h.gl,h.hi,h.bel.drew⟩
theorem Sen.below {w wr w' gs n Ls S vW LW W lo hi} (h:Sen w wr gs n Ls S vW LW W lo hi) (hb:Below wr.heap.size wr w'):Sen w w' gs n Ls S vW LW W lo hi:=
 ⟨h.seen.below hb,h.len,h.wires.below hb,h.apt,h.out,h.far,h.gl,Nat.le_trans h.hi hb.size,btr h.bel hb⟩
def Btw (lo hi:Nat) (v:Value):Prop:=∀b,v.ownBlock=some b->lo<=b/\b<hi
theorem Sen.put {w wr} {w7:World} {gs n} {j:Nat} {Ls S vW} {v7:Value} {LW W lo hi} {row:List Int} (h:Sen w wr gs n Ls S vW LW W lo hi) (hj:j<n) (ho:w7.ownsRow w.heap.size 70 1 v7 row.length (row.map (Value.int .u64))) (hg:wr.grownBy w7 (Ls.getD j (.slice none 0 0)).ownBlock) (hat:v7.ownBlock=(Ls.getD j (.slice none 0 0)).ownBlock\/∃k,v7.ownBlock=some k/\wr.heap.size<=k):
  Sen w (w7.setCell ⟨gs,j,none⟩ v7) gs n (Ls.set j v7) (S.set j row) vW LW W lo hi:=by
 have aa:=h.seen.row j (by rw [h.len];exact hj);have hE:(70:TypeId)≠52:=by decide
 have ab:w7.grownBy (w7.setCell ⟨gs,j,none⟩ v7) (some gs):=grown_set _ _ _ _;have aj:=(h.seen.cell h.len hj).2.2;have ad:j<Ls.length:=by rw [h.seen.len,h.len];exact hj
 have af:=h.wires.blk;have ae:LsV w7 w.heap.size vW LW W:=h.wires.grown hg (own_apart aa h.wires.own hE) (λi _=>h.apt.symm i j);have ag:LsV (w7.setCell ⟨gs,j,none⟩ v7) w.heap.size vW LW W:=by
  refine ae.grown ab (.inr h.out) (λi hi=>?_);have ah:=h.seen.own.kept hg (own_apart aa h.seen.own hE);exact own_apart ah (ae.row i hi) (by decide)
 refine ⟨h.seen.upd h.len hj ho hg hat,by rw [List.length_set];exact h.len,ag,h.apt.set ad (H:=wr.heap.size) (λi k hk=>(af i k hk).2) hat,h.out,λp hp gg hgg=>?_,h.gl,?_,?_⟩
 ·rw [getD_setV _ _ _ _ _ ad] at hgg;split at hgg
  ·rcases hat with e | ⟨k,e,hk⟩
   ·rw [e] at hgg;exact h.far j hj gg hgg
   ·rw [e] at hgg;obtain rfl:=Option.some.inj hgg;right;exact Nat.le_trans h.hi hk
  ·exact h.far p hp gg hgg
 ·exact Nat.le_trans h.hi (Nat.le_trans hg.size ab.size)
 ·have ai:Below w.heap.size w w7:=h.bel.grown hg h.bel.size (λq hq=>(aa.lt q hq).1);exact ai.setCell (p:=⟨gs,j,none⟩) (h.seen.own.lt gs rfl).1 _
theorem Sen.keep {w wr} {w7:World} {gs n} {j:Nat} {Ls S vW} {v7:Value} {LW W lo hi} {B2 k z:Nat} {E:TypeId} {v:Value} {xs:List Value} (h:Sen w wr gs n Ls S vW LW W lo hi) (hj:j<n) (hx:wr.ownsRow B2 E z v k xs) (hv:Btw lo hi v) (hg:wr.grownBy w7 (Ls.getD j (.slice none 0 0)).ownBlock):(w7.setCell ⟨gs,j,none⟩ v7).ownsRow B2 E z v k xs:=by
 have h1:v.ownBlock=none\/v.ownBlock≠(Ls.getD j (.slice none 0 0)).ownBlock:=by
  cases hb:v.ownBlock with
  | none=>exact .inl rfl
  | some b=>
   right;intro e;have h2:=hv b hb;have h3:=h.far j hj b e.symm;omega
 refine (hx.kept hg h1).kept (grown_set _ _ _ _) ?_;cases hb:v.ownBlock with
 | none=>exact .inl rfl
 | some b=>
  right;intro e;have h2:=hv b hb;have h3:=h.gl;have:=Option.some.inj e;omega
def sgx (S:Nat->List Int) (X:Nat->List Int) (n q:Nat):List (List Int):=(List.range n).map λp=>if p<q then S p++X p else S p
theorem sgx_len (S X:Nat->List Int) (n q:Nat):(sgx S X n q).length=n:=by simp [sgx]
theorem sgx_zero (S X:Nat->List Int) (n:Nat):sgx S X n 0=(List.range n).map S:=by simp [sgx]
theorem sgx_full (S X:Nat->List Int) (n:Nat):sgx S X n n=(List.range n).map λp=>S p++X p:=by
 unfold sgx;refine List.map_congr_left λp hp=>?_;rw [if_pos (List.mem_range.1 hp)]
theorem sgx_getD (S X:Nat->List Int) {n q:Nat} (h:q<n):(sgx S X n q).getD q []=S q:=by simp [sgx,h]
theorem sgx_set (S X:Nat->List Int) (n q:Nat):(sgx S X n q).set q (S q++X q)=sgx S X n (q+1):=by
 apply List.ext_getElem?;intro p;rw [List.getElem?_set];by_cases hp:p<n
 ·by_cases e:q=p
  ·subst e;simp [sgx,hp]
  ·have:(p<q+1)=(p<q):=by apply propext;omega
   simp [sgx,hp,e,this]
 ·by_cases e:q=p
  ·subst e;simp [sgx,hp]
  ·simp [sgx,hp,e]
def Enn (G : List Gt) (O : List Int) (N m : Nat) (n t : Int) (w : World) (e : Ending) (w' : World) : Prop :=
  ((∃ r, r ≠ 0 /\ Nde G O N m n t r /\ e = .returned (.tuple #[.int .i64 0, .int .i64 r])) \/
   (Nde G O N m n t 0 /\ e = .returned (.tuple #[.int .i64 (dwn G n.toNat t.toNat N : Int), .int .i64 0]))) /\ Below w.heap.size w w'
def Enr (G : List Gt) (O ins ds : List Int) (N m : Nat) (n t : Int) (q d : Nat) (w : World) (e : Ending) (w' : World) : Prop :=
  ((∃ r, r ≠ 0 /\ Ere G O N m n t q d r /\ e = .returned (.tuple #[.slice none 0 0, .slice none 0 0, .int .i64 r])) \/
   (Ere G O N m n t q d 0 /\ ∃ a c b k, e = .returned (.tuple #[.slice a m c, .slice b n.toNat k, .int .i64 0]) /\ Rd w' a m c (otl G O ins m) /\ RdR w' b n.toNat k (snl G O n.toNat t.toNat ins ds N m))) /\ Below w.heap.size w w'
theorem snl_rd {w B u L} {G:List Gt} {O:List Int} {n t:Nat} {ins ds:List Int} {N m:Nat} (h:LsV w B u L (snl G O n t ins ds N m)):∃a c,u = .slice a n c/\RdR w a n c (snl G O n t ins ds N m):=
 h.rdR (snl_len _ _ _ _ _ _ _ _) λi hi x hx=>by
  rw [snl_getD _ _ _ _ _ _ _ _ hi] at hx
  have:=sno_bd _ _ _ _ _ _ _ _ hi x hx
  omega
end
end Go.Proofs.YtljlioglpaogdacGreatDoor

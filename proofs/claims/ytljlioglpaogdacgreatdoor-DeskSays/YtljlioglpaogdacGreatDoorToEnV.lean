/- EnO EnK EnKA EnKS EnKM EnKC EnKI EnKK EnV -/
import Derived.Test.YtljlioglpaogdacGreatDoorToEnM
import Derived.Test.YtljlioglpaogdacGreatDoorToKyO
namespace Go.Proofs.YtljlioglpaogdacGreatDoor
set_option linter.unusedVariables false
set_option maxRecDepth 100000
set_option maxHeartbeats 8000000
section
open Crm Go.RowKit
theorem PSt.other {w wr} {w':World} {gp gs n t vi vd Ls S vW LW W lo hi} {B z k:Nat} {E:TypeId} {v:Value} {xs:List Value} (h:PSt w wr gp gs n t vi vd Ls S vW LW W lo hi) (ho:wr.ownsRow B E z v k xs) (hE1:E≠70) (hE2:E≠52) (hE3:E≠136) (hB:w.heap.size<=B) (hg:wr.grownBy w' v.ownBlock):PSt w w' gp gs n t vi vd Ls S vW LW W lo hi:=by
 have hs:=h.sen;exact ⟨⟨hs.seen.grown hg (own_apart ho hs.seen.own hE2) (λi hi=>own_apart ho (hs.seen.row i hi) hE1),hs.len,hs.wires.grown hg (own_apart ho hs.wires.own hE2) (λi hi=>own_apart ho (hs.wires.row i hi) hE1),hs.apt,hs.out,hs.far,hs.gl,Nat.le_trans hs.hi hg.size,hs.bel.grown hg hs.bel.size (λq hq=>Nat.le_trans hB (ho.lt q hq).1)⟩,h.box.grown hg (h.box.off' ho hE3),h.low⟩
theorem own_belowE {w:World} {w'} {base n z:Nat} {E:TypeId} {v:Value} {xs:List Value} (h:w.ownsRow base E z v n xs) (hb:Below w.heap.size w w'):w'.ownsRow base E z v n xs:=
 h.kept (grown_below hb none) (by cases hv:v.ownBlock with
  | none=>exact .inl rfl
  | some b=>exact .inr (by simp))
theorem eSU:(74:TypeId)≠70:=by decide
theorem eSV:(74:TypeId)≠52:=by decide
theorem eSP:(74:TypeId)≠136:=by decide
def Kept (lo hi:Nat) (w w':World):Prop:=∀(B2 z k:Nat) (E:TypeId) (v:Value) (xs:List Value),w.ownsRow B2 E z v k xs->Btw lo hi v->w'.ownsRow B2 E z v k xs
theorem Kept.trans {lo hi a b c} (h:Kept lo hi a b) (k:Kept lo hi b c):Kept lo hi a c:=λB2 z q E v xs hx hv=>k B2 z q E v xs (h B2 z q E v xs hx hv) hv
theorem kept_below {lo hi:Nat} {w:World} {w'} (hb:Below w.heap.size w w'):Kept lo hi w w':=λ_ _ _ _ _ _ hx _=>own_belowE hx hb
theorem kept_off {lo hi g:Nat} {w w':World} (hg:w.grownBy w' (some g)) (h:hi<=g):Kept lo hi w w':=λ_ _ _ _ v _ hx hv=>hx.kept hg (by
 cases hb:v.ownBlock with
 | none=>exact .inl rfl
 | some b=>
  right
  intro e
  have:=hv b hb
  have:=Option.some.inj e
  omega)
theorem eOpen {G:List Gt} {n t} {ins ds:List Int} {w W0 gp gs} {N po:Nat} {lo hh} {c:Nat} {vi vd vW Ls LW} {a:Option Addr} {S:Nat->List Int} (h:PSt w W0 gp gs n t vi vd Ls (sgx S (λ_=>ew G n t ins ds po) n 0) vW LW (ewr G n t ins ds N) lo hh) (hpo:po<N) (ea:LW.getD po (.slice none 0 0) = .slice a n c) (hG:okG G N) (hS:∀j,(S j).length<=5000) (hn:2*t+1<=n) (hn9:n<=9):
  Calls Tryz.prog 101 #[.pointer (some ⟨gp,0,none⟩),.slice a n c] W0 λe w'=>e = .returned (.int .u64 (wi G ins po))/\(∃Ls',PSt w w' gp gs n t vi vd Ls' (sgx S (λ_=>ew G n t ins ds po) n n) vW LW (ewr G n t ins ds N) lo hh)/\Kept lo hh W0 w':=by
 obtain ⟨i0,aA,aB,aC,aD⟩:=info_parts infoSh;obtain ⟨P,an,ao,ap⟩:=ew_poly (ins:=ins) (ds:=ds) hG hn hn9 po hpo;have aE:=hid an;have aF:=hid ao;have aG:=hid ap;have HS:=hid hS;have r0:=h.row hpo ea;have aV:=r0.cap;have ax:=r0.max;unfold maxLen at ax;have aH:=h.sen.hi;have aq:=h.sen.bel.size;obtain ⟨F,HF⟩:=nmd ((λr:Nat=>((r:Int)+1,(ew G n t ins ds po).getD r 0)));clear an ao ap hS hG r0;go_enter Tryz.func101,Tryz.ntmps101;go_wp2_with (at_make;refine wpList_make_full _ rfl _ _ 72 rfl W0.heap.size 74 i0 (.agg #[.int .i64 0,.int .u64 0]) 2 Tryz.underlying72 aA aB aC .i64 .i64 _ _ n rfl rfl (by omega) (by omega) (by rw [aD];omega) (by unfold maxLen;omega) (Nat.le_refl _) ?_;intro w1 aa af;rw [made2_shc,fils_zero F] at aa;have ag:Below W0.heap.size W0 w1:=(Below.refl _ _).grown af (Nat.le_refl _) (by simp);clear af);have ar:=h.below ag;have ab:=h.fresh (by omega) ag;have au:Hid (Kept lo hh W0 w1):=kept_below ag;have av:Hid (Btw W0.heap.size w1.heap.size (.slice (some ⟨W0.heap.size,0,none⟩) n n)):=λb hb=>aa.lt b hb;obtain ⟨H1,aI⟩:=nmd w1.heap.size;rw [aI.out] at ab av;clear ag h;go_loopw [15] (λs wq=>∃(k:Nat) (Ls:List Value),k<=n/\s = .int .i64 k/\PSt w wq gp gs n t vi vd Ls (sgx S (λ_=>ew G n t ins ds po) n k) vW LW (ewr G n t ins ds N) lo hh/\PSt w wq gp gs n t vi vd Ls (sgx S (λ_=>ew G n t ins ds po) n k) vW LW (ewr G n t ins ds N) W0.heap.size H1/\wq.ownsRow W0.heap.size 74 2 (.slice (some ⟨W0.heap.size,0,none⟩) n n) n (shc (fils F n k))/\Hid (Kept lo hh W0 wq)) (λs _=>n-(intOf s).toNat)
 case atStart=>exact ⟨0,Ls,Nat.zero_le _,rfl,ar,ab,aa,au⟩
 case round=>
  clear ar ab aa au;obtain ⟨k,Ls,hk,rfl,hP,ab,aa,HK⟩:=hrel;by_cases hkn:k<n
  ·have r6:=hP.row hpo ea;obtain ⟨b6,o6,y,rfl,aJ,HY,aW,aX,aK⟩:=r6.one hkn;have aL:((k:Int)+1,y)=F k:=by rw [<- HF.out];show _=((k:Int)+1,_);rw [HY.out]
   obtain ⟨d0,d1⟩:=sh_cell aa (fils_len F n k) hkn;have aM:=own_frozen2 aa (k*2);have aN:=own_frozen2 aa (k*2+1);have aO:=(own_at2 aa (by omega)).choose_spec;have aY:W0.heap.size<wr.heap.size:=(aa.lt _ rfl).2;have ad:=own_set2 (own_set2 aa (k*2) (.int .i64 ((k:Int)+1))) (k*2+1) (.int .u64 y);rw [shc_set2,fils_set ((k:Int)+1,y) aL] at ad;have ah:wr.grownBy ((wr.setCell ⟨W0.heap.size,k*2,none⟩ (.int .i64 ((k:Int)+1))).setCell ⟨W0.heap.size,k*2+1,none⟩ (.int .u64 y)) (some W0.heap.size):=grown_trans (grown_set _ _ _ _) (grown_set _ _ _ _);have ai:=hP.other aa eSU eSV eSP aq ah;have al:=ab.other aa eSU eSV eSP aq ah;have aw:Hid (Kept lo hh W0 ((wr.setCell ⟨W0.heap.size,k*2,none⟩ (.int .i64 ((k:Int)+1))).setCell ⟨W0.heap.size,k*2+1,none⟩ (.int .u64 y))):=HK.out.trans (kept_off ah aH);clear hP ab aa ah aO HK;go_upto_region 6 with fail;generalize (wr.setCell ⟨W0.heap.size,k*2,none⟩ (.int .i64 ((k:Int)+1))).setCell ⟨W0.heap.size,k*2+1,none⟩ (.int .u64 y)=wB at *;clear d0 d1 aM aN aK aJ r6;go_wp2_with fail;refine (eSee ai hkn (ai.row hpo ea) (by omega) (by omega) (HS.out k)).mono ?_;rintro e w8 ⟨rfl,hs⟩;obtain ⟨⟨Ls',aP,ay⟩,aj,ae⟩:=ai.seen2 al hkn hs;have aQ:=ae _ _ _ _ _ _ ad av.out;have aR:Hid (Kept lo hh W0 w8):=aw.out.trans aj;clear ai al ad aw hs aj ae;go_wp2;go_roundw
   case rel=>exact ⟨k+1,Ls',by omega,by go_num,aP,ay,aQ,aR⟩
   case measure=>simp [intOf];omega
  ·have az:k=n:=by omega
   subst az;rw [fils_full,<- HF.out] at aa;have ak:wr.ownsRow W0.heap.size 74 2 (.slice (some ⟨W0.heap.size,0,none⟩) k k) k (shc (shl (ew G k t ins ds po) k)):=aa;obtain ⟨a7,c7,e7,hR⟩:=RdS.own ak (shl_len _ _) (λi hi=>by
    rw [shl_getD _ hi];have:=getD_bd (bd_u64 (ew_bd G k t ins ds po)) i;exact ⟨⟨by simp only;omega,by simp only;omega⟩,this⟩)
   simp only [Value.slice.injEq,true_and] at e7;obtain ⟨rfl,rfl⟩:=e7;obtain ⟨_,f1,_,_,_,_⟩:=hP.box.cells;have aS:=hP.box.lt;clear aa ak ab;go_wp2_with fail;refine (cOpenS _ _ _ _ _ _ hR).mono ?_;rintro e w9 ⟨x,r,rfl,hO,am⟩;obtain ⟨rfl,rfl⟩:=shl_open hn9 (show t<=4 by omega) (by omega) aE.out (λi hi=>by rw [aF.out,dl_getD P hi];rfl) hO;rw [aG.out];have aT:=hP.below am;have aU:Hid (Kept lo hh W0 w9):=HK.out.trans (kept_below am);clear hP hO am hR f1 aS;go_wp2;go_ret;exact ⟨rfl,⟨Ls,aT⟩,aU.out⟩
theorem PSt.quiet {G:List Gt} {n t} {ins ds:List Int} {w wr w' gp gs} {i:Nat} {q d lo hi vi vd vW} {u:Value} {Ls LW} (h:PSt w wr gp gs n t vi vd Ls (sgl G n t ins ds i) vW LW (ewr G n t ins ds i) lo hi) (hvi:Lft w ins q (ci G i) vi) (hvd:Lft w ds d (dwn G n t i) vd) (hn:0<n) (hb:Below wr.heap.size wr w') (h1:(gt G i).k≠1) (h5:(gt G i).k≠5) (ho:w'.ownsRow wr.heap.size 70 1 u n ((ew G n t ins ds i).map (Value.int .u64))):Pgt G n t ins ds q d w gp gs i vW LW u w':=by
 have hS:=h.fresh hn hb;rw [<- sgl_same h1 h5] at hS;refine ⟨vi,vd,Ls,_,_,hS,by rw [ci_no h1];exact hvi,?_,own_baseV ho h.sen.bel.size,λb hb=>ho.lt b hb,λp b hb=>(h.sen.wires.blk p b hb).2⟩
 rw [dwn,if_neg h1,if_neg h5,Nat.add_zero];exact hvd
theorem PSt.wire {G:List Gt} {n t} {ins ds:List Int} {w wr gp gs} {i:Nat} {lo hi} {p cW:Nat} {vi vd} {aW:Option Addr} {Ls S LW} (h:PSt w wr gp gs n t vi vd Ls S (.slice aW i cW) LW (ewr G n t ins ds i) lo hi) (hp:p<i):
  ∃gW a c,aW=some ⟨gW,0,none⟩/\gW<wr.heap.size/\wr.cell? ⟨gW,p,none⟩=some (.slice a n c)/\LW.getD p (.slice none 0 0) = .slice a n c/\Rd wr a n c (ew G n t ins ds p):=by
 have ho:=h.sen.wires.own;rw [ewr_len] at ho;obtain ⟨gW,u,rfl,_,_,_,_⟩:=own_at ho hp;obtain ⟨e1,_,e3⟩:=h.sen.wires.cell (ewr_len G n t ins ds i) hp;obtain ⟨a,c,e4,hr⟩:=h.sen.wires.one (ewr_len G n t ins ds i) hp (by rw [ewr_getD G n t ins ds hp];exact bd_u64 (ew_bd _ _ _ _ _ _));rw [ewr_getD G n t ins ds hp,ew_len] at e4 hr;exact ⟨gW,a,c,rfl,e3,by rw [e1,e4],e4,hr⟩
theorem eRkAdd {G:List Gt} {n t} {ins ds:List Int} {w wr gp gs} {i:Nat} {q d lo hh} {cW pa pb:Nat} {vi vd} {aW:Option Addr} {Ls LW} {z:Int} (h:PSt w wr gp gs n t vi vd Ls (sgl G n t ins ds i) (.slice aW i cW) LW (ewr G n t ins ds i) lo hh) (hvi:Lft w ins q (ci G i) vi) (hvd:Lft w ds d (dwn G n t i) vd) (HGi:Hid (gt G i=⟨3,pa,pb,z⟩)) (hpa:pa<i) (hpb:pb<i) (hn:2*t+1<=n) (hn9:n<=9):
  Calls Tryz.prog 100 #[.pointer (some ⟨gp,0,none⟩),.agg #[.int .i64 3,.int .i64 (pa:Int),.int .i64 (pb:Int),.int .u64 z]] wr λe w'=>∃u,e = .returned u/\Pgt G n t ins ds q d w gp gs i (.slice aW i cW) LW u w':=by
 have ah:Below wr.heap.size wr (wr.alloc (.cells #[.int .i64 3,.int .i64 (pa:Int),.int .i64 (pb:Int),.int .u64 z] 138)):=bal _ _;obtain ⟨q1,q2,q3,q4⟩:=gate_box wr 3 pa pb z 138;have ab:wr.heap.size<(wr.alloc (.cells #[.int .i64 3,.int .i64 (pa:Int),.int .i64 (pb:Int),.int .u64 z] 138)).heap.size:=by simp
 have aa:=h.below ah;obtain ⟨gW,a1,c1,rfl,ad,e1,_,r1⟩:=aa.wire hpa;obtain ⟨ao,a2,c2,e',_,e2,_,r2⟩:=aa.wire hpb;simp only [Option.some.injEq,Addr.mk.injEq,and_true] at e';subst e';obtain ⟨_,_,_,_,f4,_⟩:=aa.box.cells;have af:=aa.box.lt;have HE:Hid (ew G n t ins ds i=mxl (ew G n t ins ds pa) (ew G n t ins ds pb) 1 1 0 n):=ew_add (by rw [HGi.out]) (by rw [HGi.out]) hpa (by rw [HGi.out]) hpb;have ai:Hid (Wr2 n n):=⟨⟨by omega,hn9⟩,rfl⟩;have ak:(0:Int)<=(pa:Int):=by omega
 have al:(pa:Int)<(i:Int):=by omega
 have am:(0:Int)<=(pb:Int):=by omega
 have an:(pb:Int)<(i:Int):=by omega
 go_enter Tryz.func100,Tryz.ntmps100;go_upto_region 7 with fail;generalize wr.alloc (.cells #[.int .i64 3,.int .i64 (pa:Int),.int .i64 (pb:Int),.int .u64 z] 138)=W at *;have HF:Hid (∀u w',w'.ownsRow W.drew.heap.size 70 1 u n ((mxl (ew G n t ins ds pa) (ew G n t ins ds pb) 1 1 0 n).map (Value.int .u64))->Below W.drew.heap.size W.drew w'->Pgt G n t ins ds q d w gp gs i (.slice (some ⟨gW,0,none⟩) i cW) LW u w'):=λu w' ho hb=>by
  rw [<- HE.out] at ho;exact aa.drew.quiet hvi hvd (by omega) hb (by rw [HGi.out];simp) (by rw [HGi.out];simp) ho
 clear h aa;have ag:Hid (∀w',Below W.drew.heap.size W.drew w'->w'.cell? ⟨gp,4,none⟩=some (.slice (some ⟨gW,0,none⟩) i cW)/\w'.cell? ⟨wr.heap.size,1,none⟩=some (.int .i64 (pa:Int))/\w'.cell? ⟨wr.heap.size,2,none⟩=some (.int .i64 (pb:Int))/\w'.cell? ⟨gW,pa,none⟩=some (.slice a1 n c1)/\w'.cell? ⟨gW,pb,none⟩=some (.slice a2 n c2)/\gp<w'.heap.size/\wr.heap.size<w'.heap.size/\gW<w'.heap.size):=λw' hb=>⟨by rw [hb.cell af];exact f4,by rw [hb.cell ab];exact q2,by rw [hb.cell ab];exact q3,by rw [hb.cell ad];exact e1,by rw [hb.cell ad];exact e2,Nat.lt_of_lt_of_le af hb.size,Nat.lt_of_lt_of_le ab hb.size,Nat.lt_of_lt_of_le ad hb.size⟩;go_region_held3 (λw'=>w'.cell? ⟨gp,4,none⟩=some (.slice (some ⟨gW,0,none⟩) i cW)/\w'.cell? ⟨wr.heap.size,1,none⟩=some (.int .i64 (pa:Int))/\w'.cell? ⟨wr.heap.size,2,none⟩=some (.int .i64 (pb:Int))/\w'.cell? ⟨gW,pa,none⟩=some (.slice a1 n c1)/\w'.cell? ⟨gW,pb,none⟩=some (.slice a2 n c2)) (go_keep) (first | (go_at_call 107;refine (cGAdd a1 n c1 _ a2 n c2 _ _ r1.drew r2.drew).mono ?_;rintro en w3 ⟨⟨aj,_⟩ | ⟨_,u,rfl,ho⟩,ae⟩;exact absurd ai.out aj;have HP:=HF.out u w3 ho ae;obtain ⟨j4,j1,j2,j5,j6,j7,j8,j9⟩:=ag.out w3 ae;clear ho ae))
 all_goals
  go_wp2;go_ret;exact ⟨u,rfl,HP⟩
theorem eRkSub {G:List Gt} {n t} {ins ds:List Int} {w wr gp gs} {i:Nat} {q d lo hh} {cW pa pb:Nat} {vi vd} {aW:Option Addr} {Ls LW} {z:Int} (h:PSt w wr gp gs n t vi vd Ls (sgl G n t ins ds i) (.slice aW i cW) LW (ewr G n t ins ds i) lo hh) (hvi:Lft w ins q (ci G i) vi) (hvd:Lft w ds d (dwn G n t i) vd) (HGi:Hid (gt G i=⟨4,pa,pb,z⟩)) (hpa:pa<i) (hpb:pb<i) (hn:2*t+1<=n) (hn9:n<=9):
  Calls Tryz.prog 100 #[.pointer (some ⟨gp,0,none⟩),.agg #[.int .i64 4,.int .i64 (pa:Int),.int .i64 (pb:Int),.int .u64 z]] wr λe w'=>∃u,e = .returned u/\Pgt G n t ins ds q d w gp gs i (.slice aW i cW) LW u w':=by
 have ah:Below wr.heap.size wr (wr.alloc (.cells #[.int .i64 4,.int .i64 (pa:Int),.int .i64 (pb:Int),.int .u64 z] 138)):=bal _ _;obtain ⟨q1,q2,q3,q4⟩:=gate_box wr 4 pa pb z 138;have ab:wr.heap.size<(wr.alloc (.cells #[.int .i64 4,.int .i64 (pa:Int),.int .i64 (pb:Int),.int .u64 z] 138)).heap.size:=by simp
 have aa:=h.below ah;obtain ⟨gW,a1,c1,rfl,ad,e1,_,r1⟩:=aa.wire hpa;obtain ⟨ao,a2,c2,e',_,e2,_,r2⟩:=aa.wire hpb;simp only [Option.some.injEq,Addr.mk.injEq,and_true] at e';subst e';obtain ⟨_,_,_,_,f4,_⟩:=aa.box.cells;have af:=aa.box.lt;have HE:Hid (ew G n t ins ds i=mxl (ew G n t ins ds pa) (ew G n t ins ds pb) 1 2147483646 0 n):=ew_sub (by rw [HGi.out]) (by rw [HGi.out]) hpa (by rw [HGi.out]) hpb;have ai:Hid (Wr2 n n):=⟨⟨by omega,hn9⟩,rfl⟩;have ak:(0:Int)<=(pa:Int):=by omega
 have al:(pa:Int)<(i:Int):=by omega
 have am:(0:Int)<=(pb:Int):=by omega
 have an:(pb:Int)<(i:Int):=by omega
 go_enter Tryz.func100,Tryz.ntmps100;go_upto_region 9 with fail;generalize wr.alloc (.cells #[.int .i64 4,.int .i64 (pa:Int),.int .i64 (pb:Int),.int .u64 z] 138)=W at *;have HF:Hid (∀u w',w'.ownsRow W.drew.heap.size 70 1 u n ((mxl (ew G n t ins ds pa) (ew G n t ins ds pb) 1 2147483646 0 n).map (Value.int .u64))->Below W.drew.heap.size W.drew w'->Pgt G n t ins ds q d w gp gs i (.slice (some ⟨gW,0,none⟩) i cW) LW u w'):=λu w' ho hb=>by
  rw [<- HE.out] at ho;exact aa.drew.quiet hvi hvd (by omega) hb (by rw [HGi.out];simp) (by rw [HGi.out];simp) ho
 clear h aa;have ag:Hid (∀w',Below W.drew.heap.size W.drew w'->w'.cell? ⟨gp,4,none⟩=some (.slice (some ⟨gW,0,none⟩) i cW)/\w'.cell? ⟨wr.heap.size,1,none⟩=some (.int .i64 (pa:Int))/\w'.cell? ⟨wr.heap.size,2,none⟩=some (.int .i64 (pb:Int))/\w'.cell? ⟨gW,pa,none⟩=some (.slice a1 n c1)/\w'.cell? ⟨gW,pb,none⟩=some (.slice a2 n c2)/\gp<w'.heap.size/\wr.heap.size<w'.heap.size/\gW<w'.heap.size):=λw' hb=>⟨by rw [hb.cell af];exact f4,by rw [hb.cell ab];exact q2,by rw [hb.cell ab];exact q3,by rw [hb.cell ad];exact e1,by rw [hb.cell ad];exact e2,Nat.lt_of_lt_of_le af hb.size,Nat.lt_of_lt_of_le ab hb.size,Nat.lt_of_lt_of_le ad hb.size⟩;go_region_held3 (λw'=>w'.cell? ⟨gp,4,none⟩=some (.slice (some ⟨gW,0,none⟩) i cW)/\w'.cell? ⟨wr.heap.size,1,none⟩=some (.int .i64 (pa:Int))/\w'.cell? ⟨wr.heap.size,2,none⟩=some (.int .i64 (pb:Int))/\w'.cell? ⟨gW,pa,none⟩=some (.slice a1 n c1)/\w'.cell? ⟨gW,pb,none⟩=some (.slice a2 n c2)) (go_keep) (first | (go_at_call 144;refine (cGSub a1 n c1 _ a2 n c2 _ _ r1.drew r2.drew).mono ?_;rintro en w3 ⟨⟨aj,_⟩ | ⟨_,u,rfl,ho⟩,ae⟩;exact absurd ai.out aj;have HP:=HF.out u w3 ho ae;obtain ⟨j4,j1,j2,j5,j6,j7,j8,j9⟩:=ag.out w3 ae;clear ho ae))
 all_goals
  go_wp2;go_ret;exact ⟨u,rfl,HP⟩
theorem eRkMul {G:List Gt} {n t} {ins ds:List Int} {w wr gp gs} {i N:Nat} {q d lo hh} {cW pa pb:Nat} {vi vd} {aW:Option Addr} {Ls LW} {z:Int} (h:PSt w wr gp gs n t vi vd Ls (sgl G n t ins ds i) (.slice aW i cW) LW (ewr G n t ins ds i) lo hh) (hvi:Lft w ins q (ci G i) vi) (hvd:Lft w ds d (dwn G n t i) vd) (HGi:Hid (gt G i=⟨5,pa,pb,z⟩)) (hpa:pa<i) (hpb:pb<i) (hi:i<N) (hN:N<=30) (hd:d=dwn G n t N) (hn:2*t+1<=n) (hn9:n<=9):
  Calls Tryz.prog 100 #[.pointer (some ⟨gp,0,none⟩),.agg #[.int .i64 5,.int .i64 (pa:Int),.int .i64 (pb:Int),.int .u64 z]] wr λe w'=>∃u,e = .returned u/\Pgt G n t ins ds q d w gp gs i (.slice aW i cW) LW u w':=by
 have ai:Below wr.heap.size wr (wr.alloc (.cells #[.int .i64 5,.int .i64 (pa:Int),.int .i64 (pb:Int),.int .u64 z] 138)):=bal _ _;obtain ⟨q1,q2,q3,q4⟩:=gate_box wr 5 pa pb z 138;have ak:wr.heap.size<(wr.alloc (.cells #[.int .i64 5,.int .i64 (pa:Int),.int .i64 (pb:Int),.int .u64 z] 138)).heap.size:=by simp
 have aa:=h.below ai;obtain ⟨gW,a1,c1,rfl,ap,e1,l1,r1⟩:=aa.wire hpa;obtain ⟨aq,a2,c2,e',_,e2,l2,r2⟩:=aa.wire hpb;simp only [Option.some.injEq,Addr.mk.injEq,and_true] at e';subst e';have aj:(wr.alloc (.cells #[.int .i64 5,.int .i64 (pa:Int),.int .i64 (pb:Int),.int .u64 z] 138)).heap[wr.heap.size]? = some (.cells #[.int .i64 5,.int .i64 (pa:Int),.int .i64 (pb:Int),.int .u64 z] 138 (0,0)):=heap_alloc_new wr _;obtain ⟨_,_,_,_,f4,_⟩:=aa.box.cells;have ar:=aa.box.lt;have al:(0:Int)<=(pa:Int):=by omega
 have am:(pa:Int)<(i:Int):=by omega
 have an:(0:Int)<=(pb:Int):=by omega
 have ao:(pb:Int)<(i:Int):=by omega
 go_enter Tryz.func100,Tryz.ntmps100;go_upto_region 11 with fail;generalize wr.alloc (.cells #[.int .i64 5,.int .i64 (pa:Int),.int .i64 (pb:Int),.int .u64 z] 138)=W at *;have ag:=aa.drew;have ah:Hid (∀u w',Pgt G n t ins ds q d w gp gs i (.slice (some ⟨gW,0,none⟩) i cW) LW u w'->w'.heap[wr.heap.size]? = some (.cells #[.int .i64 5,.int .i64 (pa:Int),.int .i64 (pb:Int),.int .u64 z] 138 (0,0))->w'.cell? ⟨gp,4,none⟩=some (.slice (some ⟨gW,0,none⟩) i cW)/\w'.cell? ⟨wr.heap.size,1,none⟩=some (.int .i64 (pa:Int))/\w'.cell? ⟨wr.heap.size,2,none⟩=some (.int .i64 (pb:Int))/\w'.cell? ⟨gW,pa,none⟩=some (.slice a1 n c1)/\w'.cell? ⟨gW,pb,none⟩=some (.slice a2 n c2)):=λu w' hp hx=>by
  obtain ⟨au,av,aw,ax,ay,ab,_⟩:=hp;obtain ⟨g1,b1,d1,ae,_,k1,m1,_⟩:=ab.wire hpa;obtain ⟨g2,b2,d2,af,_,k2,m2,_⟩:=ab.wire hpb;simp only [Option.some.injEq,Addr.mk.injEq,and_true] at ae af;subst ae af;rw [l1] at m1;rw [l2] at m2;refine ⟨ab.box.cells.2.2.2.2.1,?_,?_,by rw [k1,m1],by rw [k2,m2]⟩
  ·rw [cell_of_row w' _ 1 _ _ (0,0) hx];rfl
  ·rw [cell_of_row w' _ 2 _ _ (0,0) hx];rfl
 clear h aa r1 r2;go_region_held3 (λw'=>w'.cell? ⟨gp,4,none⟩=some (.slice (some ⟨gW,0,none⟩) i cW)/\w'.cell? ⟨wr.heap.size,1,none⟩=some (.int .i64 (pa:Int))/\w'.cell? ⟨wr.heap.size,2,none⟩=some (.int .i64 (pb:Int))/\w'.cell? ⟨gW,pa,none⟩=some (.slice a1 n c1)/\w'.cell? ⟨gW,pb,none⟩=some (.slice a2 n c2)) (go_keep) (first | (go_at_call 145;refine (eMultiply (pa:=pa) (pb:=pb) ag hvi hvd (by rw [HGi.out]) (by rw [HGi.out]) hpa (by rw [HGi.out]) hpb l1 l2 hi hN hd hn hn9 aj (by decide) (by decide) (by decide)).mono ?_;rintro en w3 ⟨u,rfl,HP,ad⟩;obtain ⟨j4,j1,j2,j5,j6⟩:=ah.out u w3 HP ad;clear ad))
 all_goals
  go_wp2;go_ret;exact ⟨u,rfl,HP⟩
theorem eRkScale {G:List Gt} {n t} {ins ds:List Int} {w wr gp gs} {i:Nat} {q d lo hh} {cW pa:Nat} {vi vd} {aW:Option Addr} {Ls LW} {y z:Int} (h:PSt w wr gp gs n t vi vd Ls (sgl G n t ins ds i) (.slice aW i cW) LW (ewr G n t ins ds i) lo hh) (hvi:Lft w ins q (ci G i) vi) (hvd:Lft w ds d (dwn G n t i) vd) (HGi:Hid (gt G i=⟨6,pa,y,z⟩)) (hpa:pa<i) (hz0:0<=z) (hz1:z<=18446744073709551615) (hn:2*t+1<=n) (hn9:n<=9):
  Calls Tryz.prog 100 #[.pointer (some ⟨gp,0,none⟩),.agg #[.int .i64 6,.int .i64 (pa:Int),.int .i64 y,.int .u64 z]] wr λe w'=>∃u,e = .returned u/\Pgt G n t ins ds q d w gp gs i (.slice aW i cW) LW u w':=by
 have ah:Below wr.heap.size wr (wr.alloc (.cells #[.int .i64 6,.int .i64 (pa:Int),.int .i64 y,.int .u64 z] 138)):=bal _ _;obtain ⟨q1,q2,q3,q4⟩:=gate_box wr 6 pa y z 138;have ab:wr.heap.size<(wr.alloc (.cells #[.int .i64 6,.int .i64 (pa:Int),.int .i64 y,.int .u64 z] 138)).heap.size:=by simp
 have aa:=h.below ah;obtain ⟨gW,a1,c1,rfl,ae,e1,_,r1⟩:=aa.wire hpa;obtain ⟨_,_,_,_,f4,_⟩:=aa.box.cells;have af:=aa.box.lt;have HE:Hid (ew G n t ins ds i=mxl (ew G n t ins ds pa) (ew G n t ins ds pa) z 0 0 n):=by unfold Hid;rw [ew_scale (by rw [HGi.out]) (by rw [HGi.out]) hpa,HGi.out]
 have ai:Hid (Wr1 n):=⟨by omega,hn9⟩;have ak:(0:Int)<=(pa:Int):=by omega
 have al:(pa:Int)<(i:Int):=by omega
 go_enter Tryz.func100,Tryz.ntmps100;go_upto_region 13 with fail;generalize wr.alloc (.cells #[.int .i64 6,.int .i64 (pa:Int),.int .i64 y,.int .u64 z] 138)=W at *;have HF:Hid (∀u w',w'.ownsRow W.drew.heap.size 70 1 u n ((mxl (ew G n t ins ds pa) (ew G n t ins ds pa) z 0 0 n).map (Value.int .u64))->Below W.drew.heap.size W.drew w'->Pgt G n t ins ds q d w gp gs i (.slice (some ⟨gW,0,none⟩) i cW) LW u w'):=λu w' ho hb=>by
  rw [<- HE.out] at ho;exact aa.drew.quiet hvi hvd (by omega) hb (by rw [HGi.out];simp) (by rw [HGi.out];simp) ho
 clear h aa;have ag:Hid (∀w',Below W.drew.heap.size W.drew w'->w'.cell? ⟨gp,4,none⟩=some (.slice (some ⟨gW,0,none⟩) i cW)/\w'.cell? ⟨wr.heap.size,1,none⟩=some (.int .i64 (pa:Int))/\w'.cell? ⟨wr.heap.size,3,none⟩=some (.int .u64 z)/\w'.cell? ⟨gW,pa,none⟩=some (.slice a1 n c1)/\gp<w'.heap.size/\wr.heap.size<w'.heap.size/\gW<w'.heap.size):=λw' hb=>⟨by rw [hb.cell af];exact f4,by rw [hb.cell ab];exact q2,by rw [hb.cell ab];exact q4,by rw [hb.cell ae];exact e1,Nat.lt_of_lt_of_le af hb.size,Nat.lt_of_lt_of_le ab hb.size,Nat.lt_of_lt_of_le ae hb.size⟩;go_region_held3 (λw'=>w'.cell? ⟨gp,4,none⟩=some (.slice (some ⟨gW,0,none⟩) i cW)/\w'.cell? ⟨wr.heap.size,1,none⟩=some (.int .i64 (pa:Int))/\w'.cell? ⟨wr.heap.size,3,none⟩=some (.int .u64 z)/\w'.cell? ⟨gW,pa,none⟩=some (.slice a1 n c1)) (go_keep) (first | (go_at_call 106;refine (cGScale a1 n c1 _ z _ r1.drew hz0 hz1).mono ?_;rintro en w3 ⟨⟨aj,_⟩ | ⟨_,u,rfl,ho⟩,ad⟩;exact absurd ai.out aj;have HP:=HF.out u w3 ho ad;obtain ⟨j4,j1,j2,j5,j7,j8,j9⟩:=ag.out w3 ad;clear ho ad))
 all_goals
  go_wp2;go_ret;exact ⟨u,rfl,HP⟩
theorem eRkInput {G:List Gt} {n t} {ins ds:List Int} {w wr gp gs} {i:Nat} {q d} {N:Nat} {lo hh vi vd vW Ls LW} {x y z:Int} (h:PSt w wr gp gs n t vi vd Ls (sgl G n t ins ds i) vW LW (ewr G n t ins ds i) lo hh) (hvi:Lft w ins q (ci G i) vi) (hvd:Lft w ds d (dwn G n t i) vd) (HGi:Hid (gt G i=⟨1,x,y,z⟩)) (hi:i<N) (hN:N<=30) (hq:q=ci G N) (hd:d=dwn G n t N) (hn:2*t+1<=n) (hn9:n<=9):
  Calls Tryz.prog 100 #[.pointer (some ⟨gp,0,none⟩),.agg #[.int .i64 1,.int .i64 x,.int .i64 y,.int .u64 z]] wr λe w'=>∃u,e = .returned u/\Pgt G n t ins ds q d w gp gs i vW LW u w':=by
 have ab:Below wr.heap.size wr (wr.alloc (.cells #[.int .i64 1,.int .i64 x,.int .i64 y,.int .u64 z] 138)):=bal _ _;obtain ⟨q1,q2,q3,q4⟩:=gate_box wr 1 x y z 138;have ad:wr.heap.size<(wr.alloc (.cells #[.int .i64 1,.int .i64 x,.int .i64 y,.int .u64 z] 138)).heap.size:=by simp
 have aa:=h.below ab;clear h q2 q3 q4;go_enter Tryz.func100,Tryz.ntmps100;go_upto_region 3 with fail;generalize wr.alloc (.cells #[.int .i64 1,.int .i64 x,.int .i64 y,.int .u64 z] 138)=W at *;go_wp2_with fail;refine (eDeal aa hvi hvd (by rw [HGi.out]) hi hN hq hd hn hn9).mono ?_;rintro en w3 ⟨u,rfl,HP⟩;clear aa;go_wp2;go_ret;exact ⟨u,rfl,HP⟩
theorem eRkConst {G:List Gt} {n t} {ins ds:List Int} {w wr gp gs} {i:Nat} {q d lo hh vi vd vW Ls LW} {x y z:Int} (h:PSt w wr gp gs n t vi vd Ls (sgl G n t ins ds i) vW LW (ewr G n t ins ds i) lo hh) (hvi:Lft w ins q (ci G i) vi) (hvd:Lft w ds d (dwn G n t i) vd) (HGi:Hid (gt G i=⟨2,x,y,z⟩)) (hz0:0<=z) (hz1:z<=18446744073709551615) (hn:2*t+1<=n) (hn9:n<=9):
  Calls Tryz.prog 100 #[.pointer (some ⟨gp,0,none⟩),.agg #[.int .i64 2,.int .i64 x,.int .i64 y,.int .u64 z]] wr λe w'=>∃u,e = .returned u/\Pgt G n t ins ds q d w gp gs i vW LW u w':=by
 have ai:Below wr.heap.size wr (wr.alloc (.cells #[.int .i64 2,.int .i64 x,.int .i64 y,.int .u64 z] 138)):=bal _ _;obtain ⟨q1,q2,q3,q4⟩:=gate_box wr 2 x y z 138;have ab:wr.heap.size<(wr.alloc (.cells #[.int .i64 2,.int .i64 x,.int .i64 y,.int .u64 z] 138)).heap.size:=by simp
 have aa:=h.below ai;obtain ⟨f0,_,_,_,_,_⟩:=aa.box.cells;have aj:=aa.box.lt;have HE:Hid (ew G n t ins ds i=List.replicate n (nm z)):=by unfold Hid;rw [ew_const (by rw [HGi.out]),HGi.out]
 have af:=nm_bd z;go_enter Tryz.func100,Tryz.ntmps100;go_upto_region 5 with fail;generalize wr.alloc (.cells #[.int .i64 2,.int .i64 x,.int .i64 y,.int .u64 z] 138)=W at *;have ad:Below W.heap.size W (W.alloc (.cells #[.int .u64 (nm z)] 70)):=bal _ _;have ae:=(aa.below ad).drew;have ag:W.heap.size<=(W.alloc (.cells #[.int .u64 (nm z)] 70)).drew.heap.size:=ad.size;have HF:Hid (∀u w',w'.ownsRow (W.alloc (.cells #[.int .u64 (nm z)] 70)).drew.heap.size 70 1 u n ((List.replicate n (nm z)).map (Value.int .u64))->Below (W.alloc (.cells #[.int .u64 (nm z)] 70)).drew.heap.size (W.alloc (.cells #[.int .u64 (nm z)] 70)).drew w'->Pgt G n t ins ds q d w gp gs i vW LW u w'/\w'.cell? ⟨gp,0,none⟩=some (.int .i64 (n:Int))/\w'.cell? ⟨wr.heap.size,3,none⟩=some (.int .u64 z)):=λu w' ho hb=>by
  rw [<- HE.out] at ho;refine ⟨ae.quiet hvi hvd (by omega) hb (by rw [HGi.out];simp) (by rw [HGi.out];simp) ho,?_,?_⟩
  ·rw [hb.cell (Nat.lt_of_lt_of_le aj ag)];exact ae.box.cells.1
  ·rw [hb.cell (Nat.lt_of_lt_of_le ab ag)];show (W.alloc _).cell? _=_;rw [ad.cell ab];exact q4
 have HR:Hid (Rd (W.alloc (.cells #[.int .u64 (nm z)] 70)).drew (some ⟨W.heap.size,0,none⟩) 1 1 [nm z]):=(rd_lit1 W ⟨af.1,by have:=af.2;omega⟩).drew;have ak:1<=n:=by omega
 clear h aa ae;go_region_held3 (λw'=>w'.cell? ⟨gp,0,none⟩=some (.int .i64 (n:Int))/\w'.cell? ⟨wr.heap.size,3,none⟩=some (.int .u64 z)) (go_keep) (first | (go_at_call 143;refine (fNorm z _ hz0 hz1).mono ?_;rintro en w3 ⟨rfl,hw⟩;have hw:=hw.symm;subst hw) | (go_at_call 142;refine (zRepeat (some ⟨W.heap.size,0,none⟩) 1 (nm z) n _ HR.out ak hn9).mono ?_;rintro en w5 ⟨u,rfl,ho,ah⟩;obtain ⟨HP,j0,j3⟩:=HF.out u w5 ho ah;clear ho ah))
 all_goals
  go_wp2;go_ret;exact ⟨u,rfl,HP⟩
theorem eReckon {G:List Gt} {n t} {ins ds:List Int} {w wr gp gs} {i N:Nat} {q d lo hh} {cW:Nat} {vi vd} {aW:Option Addr} {Ls LW} {k x y z:Int} (h:PSt w wr gp gs n t vi vd Ls (sgl G n t ins ds i) (.slice aW i cW) LW (ewr G n t ins ds i) lo hh) (hvi:Lft w ins q (ci G i) vi) (hvd:Lft w ds d (dwn G n t i) vd) (HGi:Hid (gt G i=⟨k,x,y,z⟩)) (hok:okg i ⟨k,x,y,z⟩) (hz:0<=z/\z<=18446744073709551615) (hi:i<N) (hN:N<=30) (hq:q=ci G N) (hd:d=dwn G n t N) (hn:2*t+1<=n) (hn9:n<=9):
  Calls Tryz.prog 100 #[.pointer (some ⟨gp,0,none⟩),.agg #[.int .i64 k,.int .i64 x,.int .i64 y,.int .u64 z]] wr λe w'=>∃u,e = .returned u/\Pgt G n t ins ds q d w gp gs i (.slice aW i cW) LW u w':=by
 rcases hok with ⟨h1,_⟩ | ⟨h1,_⟩ | ⟨h1,h2,_⟩ | ⟨h1,h2,h3,_⟩
 ·simp only at h1;subst h1;exact eRkInput h hvi hvd HGi hi hN hq hd hn hn9
 ·simp only at h1;subst h1;exact eRkConst h hvi hvd HGi hz.1 hz.2 hn hn9
 ·simp only at h1 h2;subst h1;obtain ⟨p,rfl⟩:∃p:Nat,x=p:=⟨x.toNat,by omega⟩;exact eRkScale h hvi hvd HGi (by omega) hz.1 hz.2 hn hn9
 ·simp only at h1 h2 h3;obtain ⟨p,rfl⟩:∃p:Nat,x=p:=⟨x.toNat,by omega⟩;obtain ⟨r,rfl⟩:∃p:Nat,y=p:=⟨y.toNat,by omega⟩;rcases h1 with h1 | h1 | h1
  ·subst h1;exact eRkAdd h hvi hvd HGi (by omega) (by omega) hn hn9
  ·subst h1;exact eRkSub h hvi hvd HGi (by omega) (by omega) hn hn9
  ·subst h1;exact eRkMul h hvi hvd HGi (by omega) (by omega) hi hN hd hn hn9
theorem step_appVL {P:Program} {T E:TypeId} {z0:Value} {by_:Nat} (hT:P.underlying T=some (.slice E)) (info:(P.info? E).map (λi=>(i.zero,i.size,i.bytes))=some (some z0,1,by_)) (hz:z0.cells.size=1) (hby:by_<=100) (w:World) {w1:World} {ops:Array Oper} {o:Oper} {a:Act} {K:Act->World->Prop} {Q:Exit->Act->World->Prop} {F:Prop} (hgd:o.guard=none) (s x:Operand) (ho:o.op = .call { callee:=.builtin .append,args:=#[s,x],argTypes:=#[T,T] }) (base:Nat) (v:Value) (n:Nat) (xs:List Value) (hs:a.eval s=v) (hown:w.ownsRow base E 1 v n xs) (y:Value) (hy:y.oneCell'=true) (hx:a.eval x = .slice (some ⟨w.heap.size,0,none⟩) 1 1) (hw1:w1=w.alloc (.cells #[y] E)) (hn:n<=1000000) (hbase:base<=w.heap.size) (h:∀g cap w',w'.ownsRow base E 1 (.slice (some ⟨g,0,none⟩) (n+1) cap) (n+1) (xs ++ [y])->w.grownBy w' v.ownBlock->((Value.slice (some ⟨g,0,none⟩) (n+1) cap).ownBlock=v.ownBlock\/∃k,(Value.slice (some ⟨g,0,none⟩) (n+1) cap).ownBlock=some k/\w.heap.size<=k)->K (a.put o.dst (.slice (some ⟨g,0,none⟩) (n+1) cap)) w'):
  if Region.wanted o (yielded ops a.tmps)=true then Oper.wp P o a w1 K Q else F:=by
 subst hw1;obtain ⟨i0,hi,ad,ae,af⟩:=info_parts info;refine step_append_lies _ hgd s x T ho base E i0 z0 1 by_ hT hi ad ae af hz (by decide) v n _ hs (hown.alloc _) ⟨w.heap.size,0,none⟩ 1 1 [y] hx rfl ?_ ?_ (by decide) (by unfold maxLen;omega) ?_ (by simp;omega) _ rfl ?_
 ·exact cell_one_new _ _ _
 ·intro u hu;simp at hu;subst hu;exact hy
 ·have:(n+1)*by_<=1000001*100:=Nat.mul_le_mul (by omega) hby
  omega
 ·intro g cap w' ab aa h4 _;refine h g cap w' ab ⟨aa.os,aa.tape,aa.output,?_,λk hk hne=>?_⟩ ?_
  ·have:=aa.size;simp at this;omega
  ·rw [aa.block k (by simp;omega) hne];exact Below.heap_alloc _ _ _ hk
  ·rcases h4 with e | e
   ·exact .inl (by rw [e];rfl)
   ·exact .inr ⟨g,rfl,by simp at e;omega⟩
theorem Sen.turn {w wr} {w':World} {gp gs n t vi vd vX vS Ls S vW LW W lo hi} (hs:Sen w wr gs n Ls S vW LW W lo hi) (hb:PBox wr gp n t vi vd vX vS) (low:w.heap.size<=gp) (hg:wr.grownBy w' (some gp)):Sen w w' gs n Ls S vW LW W lo hi:=
 ⟨hs.seen.grown hg (hb.off hs.seen.own eVP) (λi hi=>hb.off (hs.seen.row i hi) eUP),hs.len,hs.wires.grown hg (hb.off hs.wires.own eVP) (λi hi=>hb.off (hs.wires.row i hi) eUP),hs.apt,hs.out,hs.far,hs.gl,Nat.le_trans hs.hi hg.size,hs.bel.grown hg hs.bel.size (λq hq=>by
  obtain rfl:=Option.some.inj hq
  exact low)⟩
theorem Pgt.next {G n t ins ds w wc} {w2:World} {gp gs i q d vW} {v2:Value} {u LW} (h:Pgt G n t ins ds q d w gp gs i vW LW u wc) (hn:0<n) (ho:w2.ownsRow w.heap.size 52 1 v2 (i+1) (LW ++ [u])) (hg:wc.grownBy w2 vW.ownBlock) (hat:v2.ownBlock=vW.ownBlock\/∃k,v2.ownBlock=some k/\wc.heap.size<=k):(∃x,w2.cell? ⟨gp,4,none⟩=some x)/\w2.frozen? ⟨gp,4,none⟩=false/\gp<w2.heap.size/\∃vi vd Ls lo hi,PSt w (w2.setCell ⟨gp,4,none⟩ v2) gp gs n t vi vd Ls (sgl G n t ins ds (i+1)) v2 (LW ++ [u]) (ewr G n t ins ds (i+1)) lo hi/\Lft w ins q (ci G (i+1)) vi/\Lft w ds d (dwn G n t (i+1)) vd:=by
 obtain ⟨vi,vd,Ls,lo,hi,hP,ab,ad,hu,hb,ae⟩:=h;obtain ⟨af,hS⟩:=Psw.next ⟨Ls,lo,hi,hP.sen,hu,hb,ae⟩ hn ho hg hat;have aa:=hP.box.grown hg (hP.box.off' hP.sen.wires.own eVP);exact ⟨⟨_,aa.cells.2.2.2.2.1⟩,aa.frozen 4,aa.lt,vi,vd,af,_,_,⟨hS.turn aa hP.low (grown_set _ _ _ _),aa.set4 v2,hP.low⟩,ab,ad⟩
theorem PSt.aside {w wr} {w':World} {gp gs n t vi vd Ls S vW LW W lo hi} {B m c g:Nat} {xs:List Value} (h:PSt w wr gp gs n t vi vd Ls S vW LW W lo hi) (hLW:∀p b,(LW.getD p (.slice none 0 0)).ownBlock=some b->b<lo) (ho:wr.ownsRow B 70 1 (.slice (some ⟨g,0,none⟩) m c) m xs) (h1:lo<=g) (h2:g<hi) (hB:w.heap.size<=B) (hg:wr.grownBy w' (some g)):PSt w w' gp gs n t vi vd Ls S vW LW W lo hi:=by
 have hs:=h.sen;have hE:(70:TypeId)≠52:=by decide
 refine ⟨⟨hs.seen.grown hg (own_apart ho hs.seen.own hE) (λp hp=>?_),hs.len,hs.wires.grown hg (own_apart ho hs.wires.own hE) (λp hp=>?_),hs.apt,hs.out,hs.far,hs.gl,Nat.le_trans hs.hi hg.size,hs.bel.grown hg hs.bel.size (λq hq=>Nat.le_trans hB (ho.lt q hq).1)⟩,h.box.grown hg (h.box.off' ho eUP),h.low⟩
 ·cases hb:(Ls.getD p (.slice none 0 0)).ownBlock with
  | none=>exact .inl rfl
  | some b=>
   right;intro e;have:=hs.far p (by rw [<- hs.len];exact hp) b hb;have:=Option.some.inj e;omega
 ·cases hb:(LW.getD p (.slice none 0 0)).ownBlock with
  | none=>exact .inl rfl
  | some b=>
   right;intro e;have:=hLW p b hb;have:=Option.some.inj e;omega
theorem PBox.new (w:World) (n t:Nat) (vi vd vW vS:Value):PBox (w.alloc (.cells #[.int .i64 (n:Int),.int .i64 (t:Int),vi,vd,vW,vS] 136)) w.heap.size n t vi vd vW vS:=heap_alloc_new w _
end
end Go.Proofs.YtljlioglpaogdacGreatDoor

/- EnU -/
import Derived.Test.YtljlioglpaogdacGreatDoorToEnV
import Derived.Test.YtljlioglpaogdacGreatDoorToEnN
namespace Go.Proofs.YtljlioglpaogdacGreatDoor
set_option linter.unusedVariables false
set_option maxRecDepth 100000
set_option maxHeartbeats 8000000
section
open Crm Go.RowKit
theorem infoVs2:(Tryz.prog.info? 52).map (λi=>(i.zero,i.size,i.bytes))=some (some (.slice none 0 0),1,24):=by kernel_rfl
def EnrO (G : List Gt) (O ins ds : List Int) (N m : Nat) (n t : Int) (q d : Nat) (w : World) (e : Ending) (w' : World) : Prop :=
  ((∃ r, r ≠ 0 /\ Ere G O N m n t q d r /\ e = .returned (.tuple #[.slice none 0 0, .slice none 0 0, .int .i64 r])) \/
   (Ere G O N m n t q d 0 /\ ∃ v u L, e = .returned (.tuple #[v, u, .int .i64 0]) /\ w'.ownsRow w.heap.size 70 1 v m ((otl G O ins m).map (Value.int .u64)) /\ LsV w' w.heap.size u L (snl G O n.toNat t.toNat ins ds N m) /\
      ∀ i, i < n.toNat -> (L.getD i (.slice none 0 0)).ownBlock = none \/ (L.getD i (.slice none 0 0)).ownBlock ≠ v.ownBlock)) /\ Below w.heap.size w w'
theorem EnrO.rd {G O ins ds N m n t q d w w' e} (h:EnrO G O ins ds N m n t q d w e w'):Enr G O ins ds N m n t q d w e w':=by
 obtain ⟨h1 | ⟨h1,v,u,L,rfl,h2,h3,_⟩,hb⟩:=h
 ·exact ⟨.inl h1,hb⟩
 ·obtain ⟨a,c,rfl,r1,_⟩:=Rd.own h2 (bd_u64 (otl_bd G O ins m));obtain ⟨b,k,rfl,r2⟩:=snl_rd h3;exact ⟨.inr ⟨h1,a,c,b,k,rfl,r1,r2⟩,hb⟩
theorem eRunO (ag N cg G ao m co O) (n t:Int) (ai q ca ins ad d cd ds w) (h:RdG w ag N cg G) (g:RdI w ao m co O) (ih:Rd w ai q ca ins) (dh:Rd w ad d cd ds) (hn: -9223372036854775808<=n/\n<=9223372036854775807) (ht: -9223372036854775808<=t/\t<=9223372036854775807) (hS:Shp w):
  Calls Tryz.prog 46 #[.agg #[.slice ag N cg,.slice ao m co],.int .i64 n,.int .i64 t,.slice ai q ca,.slice ad d cd] w (EnrO G O ins ds N m n t q d w):=by
 have ar:=CBox.new w ag N cg ao m co;have ab:Below w.heap.size w (w.alloc (.cells #[.slice ag N cg,.slice ao m co] 89)):=bal _ _;have cf:=ih.cap;have bw:=ih.max;have cj:=dh.cap;have bx:=dh.max;unfold maxLen at bw bx;go_enter Tryz.func46,Tryz.ntmps46;go_wp2_with fail;generalize w.alloc (.cells #[.slice ag N cg,.slice ao m co] 89)=w0 at *;refine (eNeed _ _ _ _ _ _ _ _ _ _ _ (h.below ab) (g.below ab) hn ht (hS.below ab)).mono ?_;rintro e w1 ⟨⟨r,hr,hE,rfl⟩ | ⟨hE,rfl⟩,ak⟩
 ·have HE:Hid (Ere G O N m n t q d r):=.inl ⟨hr,hE⟩;have af:=btr ab ak;clear hE ak ar ab;go_wp2;go_ret3;exact ⟨.inl ⟨r,hr,HE.out,rfl⟩,af⟩
 ·have af:=btr ab ak;have au:=ar.below ak ar.lt;obtain ⟨d0,d1⟩:=au.cells;clear ar ak ab;obtain ⟨c1,c2⟩:=hE.ok;have hN:=c1.ok.1;have hm:=c1.ok.2.1;have HG:=hid c1.ok.2.2.1;have HO:=hid c1.ok.2.2.2;have bz:=hid c1;obtain ⟨o1,o2,o3,_⟩:=c2;obtain ⟨n,rfl⟩:∃n':Nat,n=n':=⟨n.toNat,by omega⟩;obtain ⟨t,rfl⟩:∃t':Nat,t=t':=⟨t.toNat,by omega⟩;have HE:=hid hE;have bA:Hid (∀x ∈ whl G N,-9223372036854775808<=x/\x<=9223372036854775807):=whl_bd (λi hi=>(h.bd i hi).2.1) N (Nat.le_refl _);have bB:=dwn_le G (n:=n) (t:=t) (by omega) (by omega) N;have bC:=ci_le G N;rw [Int.toNat_natCast,Int.toNat_natCast] at *;clear hE c1;go_wp2_with fail;refine (cInputs _ _ _ _ _ _ _ _ _ (h.below af) (g.below af) (hS.below af)).mono ?_;rintro e w2 ⟨⟨r,hr,hE,_⟩ | ⟨_,v,rfl,aa⟩,aq⟩
  ·exact absurd (hE.one bz.out) hr
  obtain ⟨a6,c6,rfl,av⟩:=RdI.own aa bA.out;have an:=btr af aq;have aw:=au.below aq au.lt;obtain ⟨e0,e1⟩:=aw.cells;have bD:=av.cap;have bE:=av.max;unfold maxLen at bE;obtain ⟨l,HL⟩:=nmd (ci G N);obtain ⟨D,HD⟩:=nmd (dwn G n t N);rw [HL.out] at av bD bC ⊢;rw [HD.out] at bB ⊢;clear af au aa aq d0 d1;by_cases hq:q=l
  ·subst hq;by_cases hd:d=D
   ·subst hd;obtain ⟨i0,bF,bG,bH,bI⟩:=info_parts infoVs2;have cl:1<=n:=by omega
    have aE:n<=9:=by omega
    have aR:2*t+1<=n:=by omega
    have aF:=aw.lt;go_upto_region 10 with (at_make;refine wpList_make_full _ rfl _ _ 90 rfl w2.heap.size 52 i0 (.slice none 0 0) 1 Tryz.underlying90 bF bG bH .i64 .i64 _ _ n rfl rfl (by omega) (by omega) (by rw [bI];omega) (by unfold maxLen;omega) (Nat.le_refl _) ?_;intro w3 aa ae);have al:Below w2.heap.size w2 w3:=(Below.refl _ _).grown ae (Nat.le_refl _) (by simp);have ax:=lsv_made aa;have z0:List.replicate n ([]:List Int)=sgl G n t ins ds 0:=by
     apply List.ext_getElem?;intro i;by_cases hi:i<n
     ·simp [sgl,sng,hi]
     ·simp [sgl,hi]
    rw [z0] at ax;have ah:Below w3.heap.size w3 (w3.alloc (.cells #[.int .i64 (n:Int),.int .i64 (t:Int),.slice ai q ca,.slice ad d cd,.slice none 0 0,.slice (some ⟨w2.heap.size,0,none⟩) n n] 136)):=bal _ _;have aS:w2.heap.size<w3.heap.size:=(ax.cell (sgl_len _ _ _ _ _ _) (q:=0) (by omega)).2.2;have aG:PSt w2 (w3.alloc (.cells #[.int .i64 (n:Int),.int .i64 (t:Int),.slice ai q ca,.slice ad d cd,.slice none 0 0,.slice (some ⟨w2.heap.size,0,none⟩) n n] 136)) w3.heap.size w2.heap.size n t (.slice ai q ca) (.slice ad d cd) (List.replicate n (.slice none 0 0)) (sgl G n t ins ds 0) (.slice none 0 0) [] (ewr G n t ins ds 0) (w2.heap.size+1) (w2.heap.size+1):=
     ⟨⟨ax.below ah,sgl_len _ _ _ _ _ _,lsv_nil _ _,apt_rep n [],by simp [Value.ownBlock],λp _ gg _=>by omega,by omega,Nat.le_trans aS ah.size,btr al ah⟩,PBox.new _ _ _ _ _ _ _,al.size⟩
    have aT:Lft w2 ins q (ci G 0) (.slice ai q ca):=⟨ai,ca,by rw [ci_zero,Nat.sub_zero],by rw [ci_zero,Nat.sub_zero];exact ih.below an⟩;have aU:Lft w2 ds d (dwn G n t 0) (.slice ad d cd):=⟨ad,cd,rfl,by show Rd w2 ad d cd ds;exact dh.below an⟩;have aH:=(aw.below al aF).below ah (Nat.lt_of_lt_of_le aF al.size);generalize w3.alloc (.cells #[.int .i64 (n:Int),.int .i64 (t:Int),.slice ai q ca,.slice ad d cd,.slice none 0 0,.slice (some ⟨w2.heap.size,0,none⟩) n n] 136)=w4 at *;obtain ⟨j0,j1⟩:=aH.cells;have bJ:=aH.lt;have b6:=h.cap;have b7:=g.cap;have HH:=hid h;have bK:=hid g;have aj:=hid an;clear aa ae ax z0 ah al e0 e1 h g ih dh hS av;obtain ⟨gp,aV⟩:=nmd w3.heap.size;rw [aV.out] at aG ⊢;clear aV aS;go_wp2;go_loopw [57] (λv wq=>∃(i:Nat) (vi vd:Value) (Ls LW:List Value) (lo hi cW:Nat) (aW:Option Addr),i<=N/\v = .int .i64 i/\PSt w2 wq gp w2.heap.size n t vi vd Ls (sgl G n t ins ds i) (.slice aW i cW) LW (ewr G n t ins ds i) lo hi/\Hid (Lft w2 ins q (ci G i) vi)/\Hid (Lft w2 ds d (dwn G n t i) vd)) (λv _=>N-(intOf v).toNat)
    case atStart=>exact ⟨0,_,_,_,[],_,_,0,none,Nat.zero_le _,rfl,aG,aT,aU⟩
    case round=>
     clear aG aT aU j0 j1 bJ aH;obtain ⟨i,vi,vd,Ls,LW,lo,hi,cW,aW,cm,rfl,hP,aX,aY⟩:=hrel;by_cases hlt:i<N
     ·obtain ⟨b,o,k,x,y,z,rfl,bL,aZ,hk,hx,hy,hz,k1,k2,k3,k4⟩:=(HH.out.below (btr aj.out hP.sen.bel)).one hlt;have ah:Below wr.heap.size wr (wr.alloc (.cells #[.int .i64 k,.int .i64 x,.int .i64 y,.int .u64 z] 138)):=bal _ _;obtain ⟨q1,q2,q3,q4⟩:=gate_box wr k x y z 138;have bq:wr.heap.size<(wr.alloc (.cells #[.int .i64 k,.int .i64 x,.int .i64 y,.int .u64 z] 138)).heap.size:=by simp
      have ay:=hP.below ah;have a0:=HG.out i hlt;rw [aZ.out] at a0;go_upto_region 13 with fail;generalize wr.alloc (.cells #[.int .i64 k,.int .i64 x,.int .i64 y,.int .u64 z] 138)=W at *;have a1:=ay.drew;obtain ⟨_,_,_,_,f4,_⟩:=ay.box.cells;have az:=ay.box.lt;have HR:Hid (∀u w5,Pgt G n t ins ds q d w2 gp w2.heap.size i (.slice aW i cW) LW u w5->(∃a c,u = .slice a n c)/\w5.ownsRow w2.heap.size 52 1 (.slice aW i cW) i LW/\w5.cell? ⟨gp,4,none⟩=some (.slice aW i cW)/\gp<w5.heap.size/\w2.heap.size<=w5.heap.size):=λu w5 hp=>by
       obtain ⟨a2,a4,aA,a5,a7,am,_,_,hu,_,_⟩:=hp;obtain ⟨a',c',e',_⟩:=own_slice hu;have a8:=am.sen.wires.own;rw [ewr_len] at a8;exact ⟨⟨a',c',e'⟩,a8,am.box.cells.2.2.2.2.1,am.box.lt,am.sen.bel.size⟩
      clear hP ay k1 k2 k3 k4 ah bL;go_region_law (first | (refine step_appVL Tryz.underlying90 infoVs2 rfl (by decide) w5 rfl _ _ rfl w2.heap.size (.slice aW i cW) i LW (by simp [Act.eval]) aB (.slice ua n uc) rfl (by simp [Act.eval]) rfl (by omega) a9 ?_;intro g7 br w7 ba aI aJ;obtain ⟨⟨xx,dd⟩,ff,bM,bb⟩:=Pgt.next aK.out (by omega) ba aI aJ;have aL:Hid _:=bb;clear bb ba aI aJ) | (go_simp;go_at_call 100;refine (eReckon a1 aX.out aY.out aZ a0 hz hlt hN.2 HL.out.symm HD.out.symm aR aE).mono ?_;rintro en w5 ⟨u,rfl,bc⟩;have aK:Hid (Pgt G n t ins ds q d w2 gp w2.heap.size i (.slice aW i cW) LW u w5):=bc;clear bc;obtain ⟨⟨ua,uc,rfl⟩,aB,f5,bN,a9⟩:=HR.out u w5 aK.out))
      all_goals
       obtain ⟨a2,a4,aA,a5,a7,am,l1,l2⟩:=aL.out;clear aL aK aB f5 bN a9 HR a1 q1 q2 q3 q4 bq f4 az dd ff bM;go_wp2;go_roundw
       case rel=>exact ⟨i+1,a2,a4,aA,_,a5,a7,br,_,by omega,by go_num,am,l1,l2⟩
       case measure=>simp [intOf];omega
     ·have bu:i=N:=by omega
      subst bu;obtain ⟨i1,bO,bP,bQ,bR⟩:=info_parts info70;obtain ⟨wo,aB⟩:∃x,x=wr:=⟨_,rfl⟩;subst aB;rw [snl_zero G O] at hP;have aC:=aw.below hP.sen.bel aF;obtain ⟨j0,j1⟩:=aC.cells;have be:=aC.lt;obtain ⟨F,HF⟩:=nmd ((λj=>wi G ins (O.getD j 0).toNat));go_upto_region 16 with (at_make;refine wpList_make_full _ rfl _ _ 52 rfl wo.heap.size 70 i1 (.int .u64 0) 1 Tryz.underlying52 bO bP bQ .i64 .i64 _ _ m rfl rfl (by omega) (by omega) (by rw [bR];omega) (by unfold maxLen;omega) (Nat.le_refl _) ?_;intro w6 aa ae);have aM:Below wo.heap.size wo w6:=(Below.refl _ _).grown ae (Nat.le_refl _) (by simp);have aN:=hP.fresh (by omega) aM;have aD:w6.ownsRow wo.heap.size 70 1 (.slice (some ⟨wo.heap.size,0,none⟩) m m) m ((fil F m 0).map (Value.int .u64)):=by
       have e:(Value.int .u64 0).cells = #[Value.int .u64 0]:=rfl;rw [e,Nat.mul_one,toList_madeCells_one] at aa;rw [<- fil_zero,List.map_replicate];exact aa
      have bf:Hid (Btw wo.heap.size w6.heap.size (.slice (some ⟨wo.heap.size,0,none⟩) m m)):=λb hb=>aD.lt b hb;have bg:wo.heap.size<w6.heap.size:=(aD.lt _ rfl).2;have bS:Hid (∀p b,(LW.getD p (.slice none 0 0)).ownBlock=some b->b<wo.heap.size):=λp b hb=>(hP.sen.wires.blk p b hb).2;have aO:w2.heap.size<=wo.heap.size:=hP.sen.bel.size;obtain ⟨H6,bT⟩:=nmd w6.heap.size;rw [bT.out] at aN bf bg;have aP:=aC.below aM be;obtain ⟨l0,l1⟩:=aP.cells;have bU:=aP.lt;clear aa ae aM hP aC j0 j1 be aX aY;go_wp2;go_loopw [76] (λv wq=>∃(j:Nat) (Ls:List Value),j<=m/\v = .int .i64 j/\PSt w2 wq gp w2.heap.size n t vi vd Ls (snl G O n t ins ds i j) (.slice aW i cW) LW (ewr G n t ins ds i) wo.heap.size H6/\wq.ownsRow wo.heap.size 70 1 (.slice (some ⟨wo.heap.size,0,none⟩) m m) m ((fil F m j).map (Value.int .u64))) (λv _=>m-(intOf v).toNat)
      case atStart=>exact ⟨0,Ls,Nat.zero_le _,rfl,aN,aD⟩
      case round=>
       clear aN aD l0 l1 bU aP;obtain ⟨j,Ls,hj,rfl,hP,ho⟩:=hrel;by_cases hjm:j<m
       ·obtain ⟨bo,oo,xo,rfl,bV,aQ,b8,b9,bW⟩:=(bK.out.below (btr aj.out hP.sen.bel)).one hjm;have bX:=HO.out j hjm;rw [aQ.out] at bX;obtain ⟨po,rfl⟩:∃p:Nat,xo=p:=⟨xo.toNat,by omega⟩;have bh:po<i:=by omega
        have cb:(0:Int)<=(po:Int):=by omega
        have cc:(po:Int)<(i:Int):=by omega
        have cp:(0:Int)<=(j:Int):=by omega
        have ce:(j:Int)<(m:Int):=by omega
        have bi:Hid ((λ_:Nat=>ew G n t ins ds (O.getD j 0).toNat)=λ_=>ew G n t ins ds po):=by unfold Hid;rw [aQ.out];rfl
        have bY:Hid (wi G ins po=F j):=by unfold Hid;rw [<- HF.out];show _=wi G ins (O.getD j 0).toNat;rw [aQ.out];rfl
        rw [snl_first,bi.out] at hP;obtain ⟨gW,a3,c3,rfl,bZ,eg,el,r3⟩:=hP.wire bh;obtain ⟨_,_,_,_,f4,_⟩:=hP.box.cells;have az:=hP.box.lt;have bj:∀p,(sno G O n t ins ds i j p).length<=5000:=λp=>by have:=sno_bound G O n t ins ds i j p aE;omega
        go_wp2_with fail;refine (eOpen hP bh el HG.out bj aR aE).mono ?_;rintro e w8 ⟨rfl,⟨aA,bk⟩,hK⟩;have ap:=hK _ _ _ _ _ _ ho bf.out;rw [bY.out];obtain ⟨g8,u8,bl,_,cq,_,d8⟩:=own_at ap hjm;simp only [Option.some.injEq,Addr.mk.injEq,and_true] at bl;subst bl;have f8:=own_frozen ap j;have bm:=bk.aside bS.out ap (Nat.le_refl _) bg aO (grown_set w8 wo.heap.size j (.int .u64 (F j)));have bp:=own_set ap j (.int .u64 (F j));rw [<- List.map_set,fil_set rfl] at bp;rw [<- bi.out,snl_next] at bm;clear hP bk ho ap hK bW bV eg r3 f4 az bZ bj;go_wp2;go_roundw
        case rel=>exact ⟨j+1,aA,by omega,by go_num,bm,bp⟩
        case measure=>simp [intOf];omega
       ·have bv:j=m:=by omega
        subst bv;have b0:Hid (fil F j j=otl G O ins j):=by unfold Hid;rw [fil_full,<- HF.out];rfl
        rw [b0.out] at ho;have b1:=btr aj.out hP.sen.bel;obtain ⟨_,_,_,_,_,f5⟩:=hP.box.cells;have az:=hP.box.lt;have b2:wr.drew.ownsRow w.heap.size 70 1 (.slice (some ⟨wo.heap.size,0,none⟩) j j) j ((otl G O ins j).map (Value.int .u64)):=own_baseV ho (Nat.le_trans aj.out.size aO);have b3:LsV wr.drew w.heap.size (.slice (some ⟨w2.heap.size,0,none⟩) n n) Ls (snl G O n t ins ds i j):=(hP.sen.seen.base aj.out.size).drew;have b4:Hid (∀p,p<n->(Ls.getD p (.slice none 0 0)).ownBlock=none\/(Ls.getD p (.slice none 0 0)).ownBlock≠(Value.slice (some ⟨wo.heap.size,0,none⟩) j j).ownBlock):=λp hp=>by
         cases hb:(Ls.getD p (.slice none 0 0)).ownBlock with
         | none=>exact .inl rfl
         | some gg=>
          right;have:=hP.sen.far p hp gg hb;simp only [Value.ownBlock,ne_eq,Option.some.injEq];omega
        have b5:=b1.drew;clear hP ho;go_wp2;go_region
        all_goals
         go_wp2;go_ret3;exact ⟨.inr ⟨.inr ⟨HE.out,.inr ⟨HL.out.symm,.inr ⟨HD.out.symm,rfl⟩⟩⟩,_,_,Ls,rfl,b2,b3,b4.out⟩,b5⟩
   ·go_wp2;go_ret3;exact ⟨.inl ⟨1,by decide,.inr ⟨HE.out,.inr ⟨HL.out.symm,.inl ⟨λe=>hd (e.trans HD.out),rfl⟩⟩⟩,rfl⟩,an⟩
  ·go_wp2;go_ret3;exact ⟨.inl ⟨5,by decide,.inr ⟨HE.out,.inl ⟨λe=>hq (e.trans HL.out),rfl⟩⟩,rfl⟩,an⟩
theorem eRun (ag N cg G ao m co O) (n t:Int) (ai q ca ins ad d cd ds w) (h:RdG w ag N cg G) (g:RdI w ao m co O) (ih:Rd w ai q ca ins) (dh:Rd w ad d cd ds) (hn: -9223372036854775808<=n/\n<=9223372036854775807) (ht: -9223372036854775808<=t/\t<=9223372036854775807) (hS:Shp w):
  Calls Tryz.prog 46 #[.agg #[.slice ag N cg,.slice ao m co],.int .i64 n,.int .i64 t,.slice ai q ca,.slice ad d cd] w (Enr G O ins ds N m n t q d w):=
 (eRunO ag N cg G ao m co O n t ai q ca ins ad d cd ds w h g ih dh hn ht hS).mono λ_ _ h=>h.rd
end
end Go.Proofs.YtljlioglpaogdacGreatDoor

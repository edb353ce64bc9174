/- FindC DecC RDecC -/
import Derived.Test.YtljlioglpaogdacGreatDoorEqnC
import Derived.Test.YtljlioglpaogdacGreatDoorSolveC
import Derived.Test.YtljlioglpaogdacGreatDoorToMissC
namespace Go.Proofs.YtljlioglpaogdacGreatDoor
set_option linter.unusedVariables false
set_option maxRecDepth 100000
set_option maxHeartbeats 8000000
section
open Crm Go.RowKit
structure Rws (w:World) (gl n W k:Nat) (R:Nat->List Int):Prop where
 lst:∃cur:Array Value,w.heap[gl]? = some (.cells cur 52 (0,0))/\cur.size=n/\∀r,r<k->∃ai ci,cur[r]? = some (.slice ai W ci)/\Rd w ai W ci (R r)/\∀x,ai=some x->x.block≠gl
theorem Rws.lt {w gl n W k R} (h:Rws w gl n W k R):gl<w.heap.size:=by
 obtain ⟨aa,h1,_⟩:=h.lst;exact (Array.getElem?_eq_some_iff.1 h1).1
theorem Rws.has {w gl n W k R} (h:Rws w gl n W k R) {r:Nat} (hr:r<n):∃u,w.cell? ⟨gl,r,none⟩=some u:=by
 obtain ⟨aa,h1,h2,h3⟩:=h.lst;rw [cell_of_row w gl r _ _ (0,0) h1];exact ⟨_,Array.getElem?_eq_getElem (by omega)⟩
theorem Rws.frozen {w gl n W k R} (h:Rws w gl n W k R) (r:Nat):w.frozen? ⟨gl,r,none⟩=false:=by
 obtain ⟨aa,h1,h2,h3⟩:=h.lst;exact frozen_of_row w gl r _ _ h1
theorem Rws.below {w w' gl n W k R} (h:Rws w gl n W k R) (hb:Below w.heap.size w w'):Rws w' gl n W k R:=by
 have hl:=h.lt;obtain ⟨aa,h1,h2,h3⟩:=h.lst;refine ⟨aa,by rw [hb.block gl hl];exact h1,h2,λr hr=>?_⟩
 obtain ⟨ai,ci,e1,e2,e3⟩:=h3 r hr;exact ⟨ai,ci,e1,e2.below hb,e3⟩
theorem Rws.next {w gl n W k R} (h:Rws w gl n W k R) (hk:k<n) {a c} (hr:Rd w a W c (R k)) (hne:∀x,a=some x->x.block≠gl):Rws (w.setCell ⟨gl,k,none⟩ (.slice a W c)) gl n W (k+1) R:=by
 obtain ⟨aa,h1,h2,h3⟩:=h.lst;have hg:=grown_set w gl k (.slice a W c);refine ⟨_,heap_setCell_same w gl k _ _ _ h1,by simpa using h2,λr hr2=>?_⟩
 by_cases e:r=k
 ·subst e;exact ⟨a,c,by rw [Array.getElem?_setIfInBounds];simp [h2,hk],hr.grown hg (λx hx=>by simpa using hne x hx),hne⟩
 ·obtain ⟨ai,ci,e1,e2,e3⟩:=h3 r (by omega);exact ⟨ai,ci,by rw [Array.getElem?_setIfInBounds,if_neg (λe'=>e e'.symm)];exact e1,e2.grown hg (λx hx=>by simpa using e3 x hx),e3⟩
theorem Rws.rdr {w gl n W R} (h:Rws w gl n W n R) (hn:n<=1000):RdR w (some ⟨gl,0,none⟩) n n ((List.range n).map R):=by
 obtain ⟨aa,h1,h2,h3⟩:=h.lst;refine ⟨by simp,Nat.le_refl _,by unfold maxLen;omega,by simp,λx hx i hi=>?_⟩
 obtain rfl:=Option.some.inj hx;obtain ⟨ai,ci,e1,e2,_⟩:=h3 i hi;have e:((List.range n).map R).getD i []=R i:=by simp [hi]
 rw [e,e2.len,Addr.add_lit,Nat.zero_add,cell_of_row w gl i _ _ (0,0) h1];exact ⟨ai,ci,e1,e2⟩
theorem cCloneN (b o:Nat) (n c xs w) (h:Rd w (some ⟨b,o,none⟩) n c xs) (hn2:n<=1000):
  Calls Tryz.prog 210 #[.slice (some ⟨b,o,none⟩) n c] w λe w'=>∃v,e = .returned v/\w'.ownsRow w.heap.size 70 1 v n (xs.map (Value.int .u64))/\Below w.heap.size w w':=by
 obtain ⟨i0,hi,af,ag,ah⟩:=info_parts infoU;have ab:=h.len;have aj:=λW:World=>eql_nil (P:=Tryz.prog) W _ _ ⟨b,o,none⟩ n c Tryz.underlying52;go_enter Tryz.func210,Tryz.ntmps210;go_wp2_with (at_builtin;refine wpList_append_own _ rfl _ _ 52 rfl w.heap.size 70 i0 (.int .u64 0) 1 8 Tryz.underlying52 hi af ag ah rfl (by decide) (.slice (some ⟨w.heap.size,0,none⟩) 0 0) 0 [] (by rfl) (World.ownsRow_made w #[] 0 (Nat.le_refl _) (Nat.zero_le _) rfl) ⟨b,o,none⟩ n c (xs.map (Value.int .u64)) (by rfl) (by simp [ab]) ?c1 ?c2 (by unfold maxLen;omega) (by omega) (by simp) ?_)
 case c1=>
  intro j u hj;have ai:j<n:=by have:=(List.getElem?_eq_some_iff.1 hj).1;simp at this;omega
  have hu:u = .int .u64 (xs.getD j 0):=by
   simp [List.getElem?_eq_getElem (show j<xs.length by omega)] at hj;rw [<- hj];simp [List.getElem?_eq_getElem (show j<xs.length by omega)]
  have hc:=h.cell _ rfl j ai;have hb:=World.block_lt_of_cell? w _ hc;rw [hu,World.cell?_of_block (w:=w) (Below.heap_alloc _ _ _ hb)];exact hc
 case c2=>intro u hu;obtain ⟨x,_,rfl⟩:=List.mem_map.1 hu;rfl
 ·intro v' w1 ad aa _;have ae:Below w.heap.size w w1:=((Below.refl w.heap.size w).alloc (Nat.le_refl _) _).grown aa (by simp) (λk hk=>by simp [Value.ownBlock] at hk;omega);go_wp2;go_ret;exact ⟨_,rfl,ad,ae⟩
theorem step_appG {P:Program} {T E:TypeId} (hT:P.underlying T=some (.slice E)) (info:(P.info? E).map (λi=>(i.zero,i.size,i.bytes))=some (some (.int .u64 0),1,8)) {w:World} {ops:Array Oper} {o:Oper} {a:Act} {K:Act->World->Prop} {Q:Exit->Act->World->Prop} {F:Prop} (hgd:o.guard=none) (s x:Operand) (ho:o.op = .call { callee:=.builtin .append,args:=#[s,x],argTypes:=#[T,T] }) (base:Nat) (v:Value) (n:Nat) (xs:List Int) (hs:a.eval s=v) (hown:w.ownsRow base E 1 v n (xs.map (Value.int .u64))) (y:Int) (B:Nat) (hx:a.eval x = .slice (some ⟨B,0,none⟩) 1 1) (hc:w.cell? ⟨B,0,none⟩=some (.int .u64 y)) (hn:n<=1000000) (hbase:base<=w.heap.size) (h:∀v' w',w'.ownsRow base E 1 v' (n+1) ((xs ++ [y]).map (Value.int .u64))->Below base w w'->K (a.put o.dst v') w'):
  if Region.wanted o (yielded ops a.tmps)=true then Oper.wp P o a w K Q else F:=by
 obtain ⟨i0,hi,ad,ae,af⟩:=info_parts info;refine step_append_lies _ hgd s x T ho base E i0 (.int .u64 0) 1 8 hT hi ad ae af rfl (by decide) v n _ hs hown ⟨B,0,none⟩ 1 1 [.int .u64 y] hx rfl ?_ ?_ (by decide) (by unfold maxLen;omega) (by omega) hbase _ rfl ?_
 ·intro j u hj;match j,hj with
  | 0,hj=>simp at hj;subst hj;rw [Addr.add_lit];exact hc
 ·intro u hu;simp at hu;subst hu;rfl
 ·intro g ag w' aa ab _ _;refine h _ w' (by rw [List.map_append];exact aa) ?_;exact (Below.refl _ _).grown ab hbase (λk hk=>(hown.lt k hk).1)
theorem cell_lit (w:World) (v:Value) (E:TypeId):(w.alloc (.cells #[v] E)).cell? ⟨w.heap.size,0,none⟩=some v:=by
 rw [cell_of_row _ w.heap.size 0 _ _ (0,0) (heap_alloc_new w _)];rfl
theorem zeros_nml {V:List Int} {C:Nat} (hb:∀x ∈ V,0<=x/\x<=2147483646):Nml (V.drop C ++ [1]):=by
 refine ⟨λx hx=>?_,λ_=>?_⟩
 ·rcases List.mem_append.1 hx with h | h
  ·exact hb x (List.mem_of_mem_drop h)
  ·rw [List.mem_singleton.1 h];omega
 ·rw [List.length_append,List.length_singleton,Nat.add_sub_cancel,getD_appR (Nat.le_refl _),Nat.sub_self];decide
theorem pdn_pad {Q:List Int} {m:Nat} (hb:∀x ∈ Q,0<=x/\x<=2147483646) (hl:Q.length<=m):padded Q m=pdn Q m:=by
 refine list_ext (by rw [padded_len,pdn_len]) λi hi=>?_;rw [padded_len] at hi;rw [pdn_getD Q hi];have h1:=getD_bd' hb i;rw [nm_small h1.1 h1.2];unfold padded;rw [List.take_of_length_le hl];by_cases h:i<Q.length
 ·rw [getD_appL h]
 ·rw [getD_appR (by omega),getD_big (show Q.length<=i by omega),zeros_getD]
def Found (l : List (Int × Int)) (n t e : Nat) (w : World) (en : Ending) (w' : World) : Prop :=
  ((∃ g Q, en = .returned (.tuple #[.slice (some ⟨g, 0, none⟩) (t + 1) (t + 1), .bool true]) /\ Rd w' (some ⟨g, 0, none⟩) (t + 1) (t + 1) (pdn Q (t + 1)) /\ Few l n t e Q) \/
   (en = .returned (.tuple #[.slice none 0 0, .bool false]) /\ ∀ p, ¬ Few l n t e p)) /\ Below w.heap.size w w'
theorem cFind (t e:Nat) (a n c l w) (h:RdS w a n c l) (hd:dis (fa l) n) (ht:t<=4) (hn:t+1+2*e<=n):
  Calls Tryz.prog 191 #[.int .i64 t,.int .i64 e,.slice a n c] w λen w'=>Found l n t e w en w':=by
 obtain ⟨i0,hi,bx,a1,bz⟩:=info_parts infoU;obtain ⟨i1,gi,bA,bB,bC⟩:=info_parts infoV;have bY:=dis_nine hd;have HD:=hid hd;obtain ⟨C,HC⟩:∃C,Hid (C=t+1+e):=⟨_,rfl⟩;obtain ⟨K,HK⟩:∃K,Hid (K=C+e):=⟨_,rfl⟩;have bZ:(t:Int)+1+(e:Int)=(C:Int):=by have:=HC.out;omega
 have b0:(C:Int)+(e:Int)=(K:Int):=by have:=HK.out;omega
 have bD:e<C:=by have:=HC.out;omega
 have b1:C<=K:=by have:=HK.out;omega
 have b2:K<=n:=by have:=HK.out;have:=HC.out;omega
 have aD:K=C+e:=HK.out;have au:=hid aD;clear hd aD;obtain ⟨R,HR⟩:∃R:Nat->List Int,Hid (R=λi=>eqn (l.getD i (0,0)).1 (l.getD i (0,0)).2 C e (K+1)):=⟨_,rfl⟩;go_enter Tryz.func191,Tryz.ntmps191;go_wp2_with (at_make;refine wpList_make_full _ rfl _ _ 90 rfl w.heap.size 52 i1 (.slice none 0 0) 1 Tryz.underlying90 gi bA bB .i64 .i64 _ _ n rfl rfl (by omega) (by omega) (by rw [bC];omega) (by unfold maxLen;omega) (Nat.le_refl _) ?_;intro w1 ag ad);have hM:Rws w1 w.heap.size n (K+1) 0 R:=by
  rcases ag.2 with ⟨h',_⟩ | ⟨g',bW,bE,h',_,hg,_,_,hs,bV⟩
  ·simp at h'
  ·simp only [Value.slice.injEq,Option.some.injEq,Addr.mk.injEq,and_true,true_and] at h';obtain ⟨rfl,rfl⟩:=h';exact ⟨bE,hg,by omega,λr hr=>by omega⟩
 have aa:Below w.heap.size w w1:=(Below.refl _ _).grown ad (Nat.le_refl _) (by simp);clear ag ad;go_loopw [28] (λi wr=>∃k:Nat,k<=n/\i = .int .i64 k/\Rws wr w.heap.size n (K+1) k R/\Below w.heap.size w wr) (λi _=>n-(intOf i).toNat)
 case atStart=>exact ⟨0,Nat.zero_le _,rfl,hM,aa⟩
 case round=>
  clear hM aa;obtain ⟨k,hk,rfl,hM,aa⟩:=hrel;have b3:=hM.lt;have aO:=aa.size;by_cases hlt:k<n
  ·obtain ⟨b,o,x,y,rfl,b4,HX,HY,b5,bF,bG,bH,bI,bJ⟩:=(h.below aa).one hlt;have av:=(HD.out k hlt).1;unfold fa at av;rw [HX.out] at av;have bF:=av.1;have av:=av.2;have bK:Hid (R k=eqn x y C e (K+1)):=by unfold Hid;rw [HR.out];simp only;rw [HX.out,HY.out]
   have aE:Below wr.heap.size wr (wr.alloc (.cells #[.int .i64 x,.int .u64 y] 74)):=bal _ _;have bm:=cell_alloc0 wr (.int .i64 x) (.int .u64 y) 74;have bo:=cell_alloc1 wr (.int .i64 x) (.int .u64 y) 74;go_wp2_with fail;generalize wr.alloc (.cells #[.int .i64 x,.int .u64 y] 74)=wd at *;refine (cEquation x y C e wd (by omega) (by omega) bG bH (by omega) bD).mono ?_;rintro en w2 ⟨a2,c2,rfl,ah,a3,ai⟩;rw [<- au.out] at ah ⊢;rw [<- bK.out] at ah;have ab:Below wr.heap.size wr w2:=btr aE ai;have aF:=hM.below ab;obtain ⟨u0,b6⟩:=aF.has hlt;have b7:=aF.frozen k;have a4:=aF.next hlt ah (λq hq=>by have:=a3 q hq;have:=aE.size;omega);have aG:=(aa.trans (ab.mono aO)).setCell (p:=⟨w.heap.size,k,none⟩) (Nat.le_refl _) (.slice a2 (K+1) c2);have bL:=hid a4;have bM:=hid aG;clear a4 aG aF hM ab ai aE bm bo bI bJ aa ah a3;go_wp2;go_roundw
   case rel=>exact ⟨k+1,by omega,by go_num,bL.out,bM.out⟩
   case measure=>simp [intOf];omega
  ·have bN:k=n:=by omega
   subst bN;have bO:=hM.rdr (by omega);have aP:chk ((List.range k).map R) k (K:Int)=0:=chk_ok (by omega) (by omega) (λi hi=>by
    have:((List.range k).map R).getD i []=R i:=by simp [hi]
    rw [this,HR.out,eqn_len];omega)
   have HB:Hid (Bwe (mat ((List.range k).map R)) l k C e):=λi j hi hj=>by
    unfold mat;have:((List.range k).map R).getD i []=R i:=by simp [hi]
    rw [this,HR.out,eqn_getD _ _ _ _ (by have:=au.out;omega)]
   have bp:=hid aP;clear aP hM;generalize (List.range k).map R=rs at *;go_wp2_with fail;refine (cSolve1 _ _ _ _ _ _ bO bp.out).mono ?_;rintro en w2 ⟨⟨a5,rfl⟩ | ⟨g,V,bq,rfl,hV,aw,hg⟩,ai⟩
   ·have HN:Hid (∀p,¬ Few l k t e p):=λp hp=>by
     refine a5 ?_;have h1:=hp.1;have h2:=hp.2;have ax:=HB.out;rw [HC.out] at ax;rw [au.out,HC.out];exact bw_dep (p:=p) ax (by omega) (by omega)
    clear a5;go_wp2;go_ret2;exact ⟨.inr ⟨rfl,HN.out⟩,aa.trans (ai.mono aO)⟩
   ·have bP:=hV.len;have aH:=bd_u64 hV.bd;have HV:=hid hV;have aD:=au.out;have b8:((K-C:Nat):Int)=(K:Int)-(C:Int):=by omega
    have a6:Rd w2 (some ⟨g,0,none⟩) C K (V.take C):=by
     have:=aw.rd 0 C K (by omega) (by unfold maxLen;omega) (by omega) aH;rwa [List.drop_zero] at this
    obtain ⟨O,HO,ah⟩:∃O,Hid ((if K=C then some (⟨g,0,none⟩:Addr) else some ⟨g,C,none⟩)=some ⟨g,O,none⟩)/\Rd w2 (some ⟨g,O,none⟩) (K-C) (K-C) (V.drop C):=by
     by_cases hKC:K=C
     ·refine ⟨0,if_pos hKC,?_⟩
      have:=aw.rd 0 (K-C) (K-C) (Nat.le_refl _) (by unfold maxLen;omega) (by omega) aH;rw [show K-C=0 by omega] at this ⊢;rw [List.drop_eq_nil_of_le (by omega)];simpa using this
     ·refine ⟨C,if_neg hKC,?_⟩
      have:=aw.rd C (K-C) (K-C) (Nat.le_refl _) (by unfold maxLen;omega) (by omega) aH;rwa [List.take_of_length_le (by simp;omega)] at this
    have bX:=aw.lt;have aA:Rd w2.drew (some ⟨g,O,none⟩) (K-C) (K-C) (V.drop C):=ah.drew;have aQ:=aA.below ((Below.refl _ _).alloc (Nat.le_refl _) (.cells #[.int .u64 1] 70));have aB:=a6.drew;have aR:=aB.below ((Below.refl _ _).alloc (Nat.le_refl _) (.cells #[.int .u64 1] 70));have aI:(w2.drew.alloc (.cells #[.int .u64 1] 70)).cell? ⟨w2.drew.heap.size,0,none⟩=some (.int .u64 1):=cell_lit _ _ _;have ab:Below w.heap.size w w2.drew:=(aa.trans (ai.mono aO)).drew;have al:=ab.alloc ab.size (.cells #[.int .u64 1] 70);have br:(w2.drew.alloc (.cells #[.int .u64 1] 70)).heap.size=w2.drew.heap.size+1:=by simp
    clear aD hV bq;go_wp2;go_region_law (first | (go_simp;go_at_call 210;rw [HO.out];refine (cCloneN _ _ _ _ _ _ (by first | exact aA | exact aQ) (by omega)).mono ?_;rintro en w4 ⟨v4,rfl,am,aj⟩) | (refine step_app1 Tryz.underlying52 infoU w4 rfl _ _ rfl w2.drew.heap.size _ _ _ rfl am 1 rfl rfl (by omega) aj.size ?_;intro v5 w5 ae af;have ak:=aj.trans af;have aS:=aB.below ak;have aJ:=btr ab ak;obtain ⟨az,cz,rfl,ay,_⟩:=Rd.own ae (bd_u64 (zeros_nml HV.out.bd).bd)) | (refine step_appG Tryz.underlying52 infoU rfl _ _ rfl (w2.drew.alloc (.cells #[.int .u64 1] 70)).heap.size _ _ _ rfl am 1 w2.drew.heap.size rfl (by rw [aj.cell (by show w2.heap.size<(w2.alloc _).heap.size;simp)];exact aI) (by omega) aj.size ?_;intro v5 w5 ae af;have ak:=aj.trans af;have aS:=aR.below ak;have aJ:=btr al ak;obtain ⟨az,cz,rfl,ay,_⟩:=Rd.own ae (bd_u64 (zeros_nml HV.out.bd).bd)))
    all_goals
     have a7:=aJ.size;clear am aj ae af ak aB aR aA aQ a6 ah aI ab al br aw ai aa;have aT:Hid (Nml (V.drop C ++ [1])):=zeros_nml HV.out.bd;obtain ⟨Z,HZ⟩:∃Z:List Int,Hid (Z=V.drop C ++ [1]):=⟨V.drop C ++ [1],rfl⟩;rw [<- HZ.out] at ay aT;have a8:=ay.len;have HT:Hid (0<tl (nz Z) (K-C+1)):=by have:=tl_nrm aT.out;rw [a8] at this;unfold Hid;omega
     have bQ:Hid (nrm Z=Z):=nrm_id aT.out;go_wp2_with fail;refine (cDivOK _ _ _ _ _ _ _ _ _ aS ay (by omega) (by omega) HT.out).mono ?_;rintro en w6 ⟨Q,R',aq,ar,cq,cr,rfl,a9,bR,nQ,nR,ba,bS,an,bb⟩;rw [bQ.out] at ba an;have HF:Hid ((R' = []->Q.length<=t+1/\(bdl l Q k).length<=e)/\(R'≠[]->∀p:List Int,p.length<=t+1->¬ (bdl l p k).length<=e)):=by
      have ax:=HB.out;have aU:=HV.out;have bc:=HZ.out;have bT:=au.out;have bU:=HC.out;rw [bT] at aU;rw [bU] at ax aU bc an;exact bw_find h.len HD.out hn ax aU bc nQ nR (by omega) an
     have be:=hid nQ.bd;have aC:=aJ.trans (bb.mono a7);obtain ⟨LQ,bf⟩:=nmd Q.length;obtain ⟨LR,aV⟩:=nmd R'.length;rw [bf.out] at a9 bS ⊢;rw [aV.out] at bR ba ⊢;clear ay aS nQ nR an bb aJ a7 a8 bP aH;by_cases hR0:LR=0
     ·subst hR0;have aW:R' = []:=List.eq_nil_of_length_eq_zero aV.out;obtain ⟨f1,f2⟩:=HF.out.1 aW;have bu:Hid (Few l k t e Q):=⟨by omega,by omega⟩;have bg:Hid (padded Q (t+1)=pdn Q (t+1)):=pdn_pad be.out f1;have bh:Hid ((padded Q (t+1)).length=t+1):=padded_len Q (t+1);have bi:Hid (∀x ∈ padded Q (t+1),0<=x/\x<=18446744073709551615):=padded_bd (bd_u64 be.out) (t+1);obtain ⟨PP,HP⟩:=nmd (padded Q (t+1));rw [HP.out] at bg bh bi;obtain ⟨cs,aX⟩:=nmd ((Q.take (t+1)).map (Value.int .u64));obtain ⟨cu,aK⟩:=nmd ((List.replicate (t+1) (0:Int)).map (Value.int .u64));have aL:=copy_len (k:=t+1) bf.out;have aY:=one_ints (Q.take (t+1));have ao:=λw' (hh:Rd w' aq LQ cq Q)=>copy_src hh (t+1);have aZ:Hid (Go.splice cu 0 cs=PP.map (Value.int .u64)):=by unfold Hid;rw [<- aK.out,<- aX.out,<- HP.out];exact padded_splice Q (t+1)
      have bv:cu.length=t+1:=by rw [<- aK.out];simp
      rw [aX.out] at aL aY ao;have bw:cs.length<=t+1:=by rw [aL];exact Nat.min_le_right _ _
      clear f1 f2 aW;go_wp2_with (first | (at_make;refine wpList_make_full _ rfl _ _ 52 rfl w6.heap.size 70 i0 (.int .u64 0) 1 Tryz.underlying52 hi bx a1 .i64 .i64 _ _ (t+1) rfl rfl (by omega) (by omega) (by rw [bz];omega) (by unfold maxLen;omega) (Nat.le_refl _) ?_;intro w7 ag ad;have aM:Blk w7 w6.heap.size (List.replicate (t+1) 0):=Blk.made ag;have ap:Below w6.heap.size w6 w7:=(Below.refl _ _).grown ad (Nat.le_refl _) (by simp);have aN:=a9.below ap;unfold Blk at aM;rw [aK.out] at aM;clear ag ad) | (refine wpList_copy_splice rfl _ _ 52 52 rfl 70 Tryz.underlying52 (by rw [hi,Option.map_some,a1]) (some ⟨w6.heap.size,0,none⟩) aq (t+1) (t+1) LQ cq (by rfl) (by rfl) w6.heap.size 0 cu 70 aM cs aL (λhp=>⟨rfl,ao w7 aN hp⟩) (by omega) aY w6.heap.size w6 ap (Nat.le_refl _) ?_;intro w8 bj a0));have bk:Blk w8 w6.heap.size PP:=by unfold Blk;rw [<- aZ.out];exact bj.out
      have bl:Rd w8 (some ⟨w6.heap.size,0,none⟩) (t+1) (t+1) PP:=bk.whole (t+1) bh.out.symm (by unfold maxLen;omega) bi.out;rw [bg.out] at bl;clear bj aM ap aN ao aL aY aX aK bv bw aZ bk;go_wp2;go_ret2;exact ⟨.inl ⟨_,Q,rfl,bl,bu.out⟩,btr aC a0⟩
     ·have HN:Hid (∀p,¬ Few l k t e p):=λp hp=>by
       have h1:=hp.1;have h2:=hp.2;exact HF.out.2 (λe=>hR0 (by rw [<- aV.out,e];rfl)) p (by omega) (by omega)
      have aW:(0:Int)<(LR:Int):=by omega
      go_wp2;go_ret2;exact ⟨.inr ⟨rfl,HN.out⟩,aC⟩
def Dck (l:List (Int×Int)) (n:Nat) (t e r:Int):Prop:=
 (She l n t r/\r≠0/\r≠4)\/(Shd l n t/\(e<0\/4<e)/\r=1)\/(Shd l n t/\(0<=e/\e<=4)/\(n:Int)<t+1+2*e/\r=4)\/(Shd l n t/\(0<=e/\e<=4)/\t+1+2*e<=(n:Int)/\r=0)
theorem Dck.err {l n t e r} (h:Dck l n t e r) (hr:r≠0):Dcd l n t e [] [] r:=by
 rcases h with h | ⟨h1,h2,h3⟩ | ⟨h1,h2,h3,h4⟩ | ⟨h1,h2,h3,h4⟩
 ·exact .inl ⟨h,rfl,rfl⟩
 ·exact .inr (.inl ⟨h1,h2,rfl,rfl,h3⟩)
 ·exact .inr (.inr (.inl ⟨h1,h2,h3,rfl,rfl,h4⟩))
 ·exact absurd h4 hr
theorem Dck.ok {l n t e} (h:Dck l n t e 0):Shd l n t/\(0<=e/\e<=4)/\t+1+2*e<=(n:Int):=by
 rcases h with ⟨_,h,_⟩ | ⟨_,_,h3⟩ | ⟨_,_,_,h4⟩ | ⟨h1,h2,h3,h4⟩
 ·exact absurd rfl h
 ·omega
 ·omega
 ·exact ⟨h1,h2,h3⟩
theorem bdl_mem {l:List (Int×Int)} {p:List Int} {x:Int}:∀{n:Nat},x ∈ bdl l p n->∃i,i<n/\(l.getD i (0,0)).1=x
 | 0,h=>by simp [bdl] at h
 | n+1,h=>by
  rw [bdl] at h
  split at h
  ·obtain ⟨i,h1,h2⟩:=bdl_mem h;exact ⟨i,by omega,h2⟩
  ·rcases List.mem_append.1 h with h | h
   ·obtain ⟨i,h1,h2⟩:=bdl_mem h;exact ⟨i,by omega,h2⟩
   ·exact ⟨n,by omega,(List.mem_singleton.1 h).symm⟩
theorem bdl_bd {l:List (Int×Int)} {p:List Int} {B n m} (hd:dis (fa l) n) (h:OuI (bdl l p n) B m):∀x ∈ B,-9223372036854775808<=x/\x<=9223372036854775807:=λx hx=>by
 obtain ⟨i,hi,e⟩:=bdl_mem (h.perm.mem_iff.1 hx)
 have:=(hd i hi).1
 unfold fa at this
 omega
theorem cDcheck (t e a n c l w) (h:RdS w a n c l):
  Calls Tryz.prog 190 #[.int .i64 t,.int .i64 e,.slice a n c] w λen w'=>∃r,en = .returned (.int .i64 r)/\Dck l n t e r/\Below w.heap.size w w':=by
 have ae:=h.cap;have ab:=h.max;unfold maxLen at ab;go_enter Tryz.func190,Tryz.ntmps190;go_wp2_with fail;refine (cCheckS _ _ _ _ _ _ h).mono ?_;rintro en w1 ⟨r,rfl,hS,aa⟩;by_cases hr:r=0\/r=4
 ·have HS:Hid (Shd l n t):=hS.shd hr;have af:=(hS.shd hr).1;have ag:(r==1)=false:=by rw [beq_eq_false_iff_ne];omega
  have ah:(r==5)=false:=by rw [beq_eq_false_iff_ne];omega
  clear hr hS;by_cases h0:e<0
  ·have HN:Hid (Dck l n t e 1):=.inr (.inl ⟨HS.out,.inl h0,rfl⟩);go_wp2;go_ret;exact ⟨1,rfl,HN.out,aa⟩
  ·by_cases h4:4<e
   ·have HN:Hid (Dck l n t e 1):=.inr (.inl ⟨HS.out,.inr h4,rfl⟩);go_wp2;go_ret;exact ⟨1,rfl,HN.out,aa⟩
   ·by_cases hn:(n:Int)<t+1+2*e
    ·have HN:Hid (Dck l n t e 4):=.inr (.inr (.inl ⟨HS.out,⟨by omega,by omega⟩,hn,rfl⟩));go_wp2;go_ret;exact ⟨4,rfl,HN.out,aa⟩
    ·have HN:Hid (Dck l n t e 0):=.inr (.inr (.inr ⟨HS.out,⟨by omega,by omega⟩,by omega,rfl⟩));go_wp2;go_ret;exact ⟨0,rfl,HN.out,aa⟩
 ·have HN:Hid (Dck l n t e r):=.inl ⟨hS,λe=>hr (.inl e),λe=>hr (.inr e)⟩;have ad:r=1\/r=5:=by
   rcases hS with ⟨_,h2⟩ | ⟨_,_,h2⟩ | ⟨_,_,_,h2⟩ | ⟨_,_,_,h2⟩ <;> omega
  clear hr hS;rcases ad with rfl | rfl
  ·go_wp2;go_ret;exact ⟨1,rfl,HN.out,aa⟩
  ·go_wp2;go_ret;exact ⟨5,rfl,HN.out,aa⟩
def Dcs (l:List (Int×Int)) (n:Nat) (t e:Int) (w:World) (en:Ending) (w':World):Prop:=
 ∃(P B:List Int) (r:Int) (a1:Option Addr) (k1 c1:Nat) (a2:Option Addr) (k2 c2:Nat),en = .returned (.tuple #[.slice a1 k1 c1,.slice a2 k2 c2,.int .i64 r])/\Dcd l n t e P B r/\Rd w' a1 k1 c1 P/\RdI w' a2 k2 c2 B/\Below w.heap.size w w'
theorem nil_rdI (w:World):RdI w none 0 0 []:=⟨rfl,Nat.le_refl _,Nat.zero_le _,by simp,λ_=>rfl,by simp⟩
theorem cDecode (t e a n c l w) (h:RdS w a n c l):
  Calls Tryz.prog 156 #[.int .i64 t,.int .i64 e,.slice a n c] w λen w'=>Dcs l n t e w en w':=by
 go_enter Tryz.func156,Tryz.ntmps156;go_wp2_with fail;refine (cDcheck _ _ _ _ _ _ _ h).mono ?_;rintro en w1 ⟨r,rfl,hC,aa⟩;by_cases hr:r=0
 ·subst hr;obtain ⟨hS,he,hn⟩:=hC.ok;have ht:=hS.1;have HD:=hid hS.2;have HS:=hid hS;clear hC hS;obtain ⟨k,rfl⟩:∃k:Nat,t=k:=⟨t.toNat,by omega⟩;obtain ⟨d,rfl⟩:∃d:Nat,e=d:=⟨e.toNat,by omega⟩;go_wp2_with fail;refine (cFind _ _ _ _ _ _ _ (h.below aa) HD.out (by omega) (by omega)).mono ?_;rintro en w2 ⟨⟨g,Q,rfl,ag,hF⟩ | ⟨rfl,hF⟩,ah⟩
  ·have HF:=hid hF;have ad:=btr aa ah;clear hF aa ah;go_wp2_with fail;refine (cMisses _ _ _ _ _ _ _ _ _ ag (h.below ad) (by omega) HD.out).mono ?_;rintro en w3 ⟨B,ab,cb,rfl,af,hO,ai⟩;have hl:=h.len;have HE:Hid (bdl l (pdn Q (k+1)) n=bdl l Q n):=by
    unfold Hid;rw [<- hl];refine bdl_same (nrm_ext λi=>?_) l;by_cases hi:i<k+1
    ·rw [pdn_getD Q hi,nm_nm]
    ·have:=HF.out.1;rw [getD_big (by rw [pdn_len];omega),getD_big (show Q.length<=i by omega)]
   rw [HE.out] at af hO ⊢;have ae:Hid (Dcd l n k d (pdn Q (k+1)) B 0):=.inr (.inr (.inr (.inl ⟨HS.out,he,hn,⟨Q,HF.out,by congr 1,hO⟩,rfl⟩)));obtain ⟨a2,c2,e2,aj⟩:=RdI.own af (bdl_bd HD.out hO);simp only [Value.slice.injEq,true_and] at e2;obtain ⟨rfl,rfl⟩:=e2;have ak:=ag.below ai;have al:=btr ad ai;obtain ⟨NB,am⟩:=nmd ((bdl l Q n).length);rw [am.out] at aj ⊢;clear hO af ai ad ag;go_wp2;go_ret3;exact ⟨_,B,0,_,_,_,_,_,_,rfl,ae.out,ak,aj,al⟩
  ·have ae:Hid (Dcd l n k d [] [] 6):=.inr (.inr (.inr (.inr ⟨HS.out,he,hn,hF,rfl,rfl,rfl⟩)));clear hF;go_wp2;go_ret3;exact ⟨_,_,6,_,_,_,_,_,_,rfl,ae.out,nil_rd _,nil_rdI _,btr aa ah⟩
 ·have an:(r != 0)=true:=by rw [bne_iff_ne];exact hr
  have ae:Hid (Dcd l n t e [] [] r):=hC.err hr;clear hr hC;go_wp2;go_ret3;exact ⟨_,_,r,_,_,_,_,_,_,rfl,ae.out,nil_rd _,nil_rdI _,aa⟩
def Ros (l:List (Int×Int)) (n:Nat) (t:Int) (w:World) (en:Ending) (w':World):Prop:=
 ∃(x:Int) (B:List Int) (r:Int) (a2:Option Addr) (k2 c2:Nat),en = .returned (.tuple #[.int .u64 x,.slice a2 k2 c2,.int .i64 r])/\Rob l n t x B r/\RdI w' a2 k2 c2 B/\Below w.heap.size w w'
theorem dcd_head {l n t e P B} (h:Dcd l n t e P B 0):0<P.length/\∀x ∈ P,0<=x/\x<=2147483646:=by
 rcases h with ⟨⟨_,h,_⟩,_⟩ | ⟨_,_,_,_,h⟩ | ⟨_,_,_,_,_,h⟩ | ⟨h1,_,_,⟨p,_,rfl,_⟩,_⟩ | ⟨_,_,_,_,_,_,h⟩
 ·exact absurd rfl h
 ·omega
 ·omega
 ·have:=h1.1;exact ⟨by rw [pdn_len];omega,pdn_bd _ _⟩
 ·omega
theorem cOpenD (t a n c l w) (h:RdS w a n c l):
  Calls Tryz.prog 111 #[.int .i64 t,.slice a n c] w λen w'=>Ros l n t w en w':=by
 go_enter Tryz.func111,Tryz.ntmps111;go_wp2_with fail;refine (cCheckS _ _ _ _ _ _ h).mono ?_;rintro en w1 ⟨r,rfl,hS,aa⟩;by_cases hr:r=0
 ·subst hr;have HS:=hid hS;obtain ⟨t0,t4,hd,ai,aj⟩:=hS.ok;clear hd hS;have HM:Hid (((n:Int)-t-1)/2=mayb n t):=by unfold Hid mayb;omega
  have ak:0<=((n:Int)-t-1)/2:=by omega
  have al:((n:Int)-t-1)/2<=4:=by omega
  go_wp2_with fail;refine (cDecode _ _ _ _ _ _ _ (h.below aa)).mono ?_;rintro en w2 ⟨P,B,s,a1,k1,c1,a2,k2,c2,rfl,hD,ae,af,ab⟩;rw [HM.out] at hD;have ad:=btr aa ab;by_cases hs:s=0
  ·subst hs;have HD:=hid hD;obtain ⟨am,ag⟩:=dcd_head hD;have an:=ae.len;obtain ⟨b,o,x,rfl,ao,HX,ap,aq,ah⟩:=ae.one (show 0<k1 by omega);rw [Nat.add_zero] at ah;have ar:(0:Int)<(k1:Int):=by omega
   have HN:Hid (Rob l n t x B 0):=.inr ⟨HS.out,P,B,0,HD.out,.inr ⟨rfl,HX.out.symm,rfl,rfl⟩⟩;clear hD ag aa ab;go_wp2;go_ret3;exact ⟨x,B,0,_,_,_,rfl,HN.out,af,ad⟩
  ·have au:(s != 0)=true:=by rw [bne_iff_ne];exact hs
   have HN:Hid (Rob l n t 0 [] s):=.inr ⟨HS.out,P,B,s,hD,.inl ⟨hs,rfl,rfl,rfl⟩⟩;clear hD hs aa ab;go_wp2;go_ret3;exact ⟨0,[],s,_,_,_,rfl,HN.out,nil_rdI _,ad⟩
 ·have av:(r != 0)=true:=by rw [bne_iff_ne];exact hr
  have HN:Hid (Rob l n t 0 [] r):=.inl ⟨hS,hr,rfl,rfl⟩;clear hr hS;go_wp2;go_ret3;exact ⟨0,[],r,_,_,_,rfl,HN.out,nil_rdI _,aa⟩
theorem bit_int (s k:Nat):((s:Int)/2 ^ k).tmod 2=((s/2 ^ k%2:Nat):Int):=by
 have e:(s:Int)/2 ^ k=((s/2 ^ k:Nat):Int):=by norm_cast
 rw [e];exact Int.ofNat_tmod _ _ ▸ rfl
theorem slt_yes {l:List (Int×Int)} {s k:Nat} {x y:Int} (hb:s/2 ^ k%2=1) (hx:(l.getD k (0,0)).1=x) (hy:(l.getD k (0,0)).2=y):slt l s (k+1)=slt l s k ++ [(x,y)]/\ult l s (k+1)=ult l s k:=by
 rw [slt,ult,if_pos hb,if_pos hb,<- hx,<- hy];exact ⟨rfl,rfl⟩
theorem slt_no {l:List (Int×Int)} {s k:Nat} {x y:Int} (hb:¬ s/2 ^ k%2=1) (hx:(l.getD k (0,0)).1=x) (hy:(l.getD k (0,0)).2=y):slt l s (k+1)=slt l s k/\ult l s (k+1)=ult l s k ++ [(x,y)]:=by
 rw [slt,ult,if_neg hb,if_neg hb,<- hx,<- hy];exact ⟨rfl,rfl⟩
theorem bd_list {l:List (Int×Int)} {n:Nat} {Q:Int×Int->Prop} (h:∀x ∈ l,Q x) (hl:l.length=n):∀i,i<n->Q (l.getD i (0,0)):=λi hi=>by
 have e:l.getD i (0,0)=l[i]'(by omega):=by simp [List.getElem?_eq_getElem (show i<l.length by omega)]
 rw [e];exact h _ (List.getElem_mem _)
theorem mem_list {l:List (Int×Int)} {n:Nat} {Q:Int×Int->Prop} (h:∀i,i<n->Q (l.getD i (0,0))) (hl:l.length=n):∀x ∈ l,Q x:=λx hx=>by
 obtain ⟨i,hi,e⟩:=List.getElem_of_mem hx
 have:=h i (by omega)
 have e2:l.getD i (0,0)=l[i]:=by simp [List.getElem?_eq_getElem hi]
 rw [e2,e] at this;exact this
theorem rDecodeL (t e:Nat) (a n c l w) (h:RdS w a n c l) (hd:dis (fa l) n) (ht:t<=4) (he:e<=4) (hn:t+1+2*e<=n):
  Calls Tryz.prog 75 #[.int .i64 t,.int .i64 e,.slice a n c] w λen w'=>Dcs l n t e w en w':=by
 have bc:=dis_nine hd;have HD:=hid hd;clear hd;obtain ⟨S,aF⟩:∃S:Nat,Hid (S=2 ^ n):=⟨_,rfl⟩;have bx:(2:Int) ^ n=(S:Int):=by rw [aF.out];norm_cast
 have bz:S<=512:=by rw [aF.out];exact Nat.pow_le_pow_right (n:=2) (by omega) bc
 go_enter Tryz.func75,Tryz.ntmps75;go_wp2_with fail;refine (rShares _ _ _ _ _ _ h).mono ?_;rintro en w1 ⟨r,rfl,hS,be⟩;have hr:r=0:=by
  rcases hS with ⟨h1,_⟩ | ⟨_,h1,_⟩ | ⟨_,_,h1,_⟩ | ⟨_,_,_,h1⟩
  ·omega
  ·exact absurd HD.out h1
  ·omega
  ·exact h1
 subst hr;clear hS;go_wp2_with (go_at_call 35;refine (rInY _ _ _ _ (by omega) (by omega)).mono ?_;rintro en w' ⟨rfl,hw⟩;have hw:=hw.symm;subst hw);go_loopw [10] (λi wr=>∃s:Nat,s<=S/\i = .int .i64 s/\Hid (Nope l n t e s)/\Below w.heap.size w wr) (λi _=>S-(intOf i).toNat)
 case atStart=>exact ⟨0,Nat.zero_le _,rfl,nope_zero _ _ _ _,be⟩
 case round=>
  obtain ⟨s,hs,rfl,HN,aw⟩:=hrel;obtain ⟨wo,bf⟩:∃wo,wo=wr:=⟨_,rfl⟩;subst bf;by_cases hlt:s<S
  ·have aS:=aw.size;go_wp2;go_loopw [11,12,13] (λv1 v2 i wr=>∃k:Nat,k<=n/\i = .int .i64 k/\Two wr wo.heap.size 74 v1 v2 (slt l s k) (ult l s k)/\Below wo.heap.size wo wr) (λ_ _ i _=>n-(intOf i).toNat)
   case atStart=>exact ⟨0,Nat.zero_le _,rfl,Two.start _ _ _,Below.refl _ _⟩
   case round=>
    obtain ⟨k,hk,rfl,hT,aA⟩:=hrel;have aG:=aA.size;have aj:=ult_le l s k;have aH:=aw.trans (aA.mono aS);by_cases hkn:k<n
    ·obtain ⟨b,o,x,y,rfl,bA,HX,HY,bB,bC,bD,bE,bF,bG⟩:=(h.below aH).one hkn;by_cases hbit:s/2 ^ k%2=1
     ·have a0:(((s:Int)/2 ^ k).tmod 2==1)=true:=by rw [bit_int,hbit];rfl
      obtain ⟨e1,e2⟩:=slt_yes hbit HX.out HY.out;have an:Hid (∀v' w',w'.ownsRow wo.heap.size 74 2 v' ((slt l s k).length+1) (shc (slt l s k ++ [(x,y)]))->wr.grownBy w' u11.ownBlock->(v'.ownBlock=u11.ownBlock\/∃k,v'.ownBlock=some k/\wr.heap.size<=k)->Two w' wo.heap.size 74 v' u12 (slt l s (k+1)) (ult l s (k+1))):=by
       intro v' w' g1 g2 g3;rw [e1,e2];exact hT.add g1 g2 g3
      have ae:=hT.o1;obtain ⟨N1,ag⟩:=nmd ((slt l s k).length);rw [ag.out] at ae aj an;clear hbit e1 e2;go_wp2_with (at_builtin;refine wpList_appS2 Tryz.underlying72 infoSh _ rfl _ _ rfl wo.heap.size _ _ _ rfl ae _ _ rfl (by omega) (by omega) ?_;intro v' w7 ad aa ah;have aI:=an.out v' w7 ad aa ah;have ao:=aA.grown aa aG (λj hj=>(ae.lt j hj).1);clear ad aa ah);go_roundw
      case rel=>exact ⟨k+1,by omega,by go_num,aI,ao⟩
      case measure=>simp [intOf];omega
     ·have a0:(((s:Int)/2 ^ k).tmod 2==1)=false:=by
       rw [bit_int,beq_eq_false_iff_ne];omega
      obtain ⟨e1,e2⟩:=slt_no hbit HX.out HY.out;have an:Hid (∀v' w',w'.ownsRow wo.heap.size 74 2 v' ((ult l s k).length+1) (shc (ult l s k ++ [(x,y)]))->wr.grownBy w' u12.ownBlock->(v'.ownBlock=u12.ownBlock\/∃k,v'.ownBlock=some k/\wr.heap.size<=k)->Two w' wo.heap.size 74 u11 v' (slt l s (k+1)) (ult l s (k+1))):=by
       intro v' w' g1 g2 g3;rw [e1,e2];exact (hT.swap.add g1 g2 g3).swap
      have ae:=hT.o2;obtain ⟨N1,ag⟩:=nmd ((ult l s k).length);rw [ag.out] at ae aj an;clear hbit e1 e2;go_wp2_with (at_builtin;refine wpList_appS2 Tryz.underlying72 infoSh _ rfl _ _ rfl wo.heap.size _ _ _ rfl ae _ _ rfl (by omega) (by omega) ?_;intro v' w7 ad aa ah;have aI:=an.out v' w7 ad aa ah;have ao:=aA.grown aa aG (λj hj=>(ae.lt j hj).1);clear ad aa ah);go_roundw
      case rel=>exact ⟨k+1,by omega,by go_num,aI,ao⟩
      case measure=>simp [intOf];omega
    ·have a4:k=n:=by omega
     subst a4;have hl:=h.len;have aT:=mem_list (Q:=λp=>(-9223372036854775808<=p.1/\p.1<=9223372036854775807)/\0<=p.2/\p.2<=18446744073709551615) h.bd hl;have aB:∀x ∈ jn l s k,(-9223372036854775808<=x.1/\x.1<=9223372036854775807)/\0<=x.2/\x.2<=18446744073709551615:=λx hx=>aT x ((jn_perm hl s).mem_iff.1 hx);obtain ⟨a1,c1,rfl,aU⟩:=RdS.own hT.o1 rfl (bd_list (λx hx=>aB x (List.mem_append_left _ hx)) rfl);obtain ⟨a2,c2,rfl,aJ⟩:=RdS.own hT.o2 rfl (bd_list (λx hx=>aB x (List.mem_append_right _ hx)) rfl);have ak:=hT.o1;have bg:Hid (∀i,i<k->(-9223372036854775808<=((jn l s k).getD i (0,0)).1/\((jn l s k).getD i (0,0)).1<=9223372036854775807)/\0<=((jn l s k).getD i (0,0)).2/\((jn l s k).getD i (0,0)).2<=18446744073709551615):=bd_list aB (jn_len hl s);have bh:Hid ((jn l s k).length=k):=jn_len hl s;have aV:Hid (dis (fa (jn l s k)) k):=dis_perm hl (jn_perm hl s) HD.out;have bi:Hid (slt l s k++ult l s k=jn l s k):=rfl;obtain ⟨N1,ag⟩:=nmd ((slt l s k).length);obtain ⟨N2,bj⟩:=nmd ((ult l s k).length);rw [ag.out] at ak aj aU ⊢;rw [bj.out] at aj aJ ⊢;have aW:=hid aj;clear hT aU aT aB;by_cases hN1:N1=t+1
     ·subst hN1;clear aj;have bk:t+1+N2<=1000:=by have:=aW.out;omega
      go_wp2_with (at_builtin;refine wpList_appSS Tryz.underlying72 infoSh rfl _ _ rfl wo.heap.size _ _ _ rfl ak _ _ _ _ aJ rfl bk aG ?_;intro v3 w3 al aK;rw [aW.out,bi.out] at al;obtain ⟨a3,c3,rfl,aL⟩:=RdS.own al bh.out bg.out;clear al ak aJ);have ax:=aH.trans (aK.mono aS);refine (rFitO _ _ _ _ t _ aL aV.out (by omega)).mono ?_;rintro en w4 ⟨q,aq,cq,B,ab,cb,rfl,aM,ar,aN,aO,aC,hO,au⟩;have ay:=btr ax au;have bH:=au.size;have aX:=bdl_le (jn l s k) q k;by_cases hbe:(bdl (jn l s k) q k).length<=e
      ·have aP:Hid (Dcd l k t e (pdn q (t+1)) B 0):=jn_found h.len HD.out ht he hn ar hbe hO;have bl:Hid (∀x ∈ B,-9223372036854775808<=x/\x<=9223372036854775807):=bdl_bd aV.out hO;have bm:=hid aO.bd;obtain ⟨NB,aD⟩:=nmd ((bdl (jn l s k) q k).length);obtain ⟨LQ,av⟩:=nmd q.length;have az:w4.ownsRow w3.heap.size 70 1 (.slice aq q.length cq) q.length ((pad0 q q.length).map (Value.int .u64)):=by rw [pad0_self];exact aM
       rw [av.out] at az ar ⊢;rw [aD.out] at aC aX hbe ⊢;have aQ:=au;clear aM aN aO hO aK au aL;have a5:decide (e<NB)=false:=decide_eq_false (by omega);obtain ⟨wq,bo⟩:∃wq,wq=w4:=⟨_,rfl⟩;subst bo;go_wp2;go_loopw [14] (λv wr=>∃j:Nat,LQ<=j/\j<=t+1/\slen v=j/\wr.ownsRow w3.heap.size 70 1 v j ((pad0 q j).map (Value.int .u64))/\wr.ownsRow w3.heap.size 3 1 (.slice ab NB cb) NB (zns B)/\Below w3.heap.size w3 wr/\Below w.heap.size w wr) (λv _=>t+1-slen v)
       case atStart=>exact ⟨LQ,Nat.le_refl _,ar,rfl,az,aC,aQ,ay⟩
       case round=>
        clear az aC aQ ay;obtain ⟨j,bp,bI,hsl,af,ai,aE,am⟩:=hrel;obtain ⟨ap,cp,rfl,bJ⟩:=own_slice af;have aY:=aE.size;by_cases hjt:j<t+1
        ·have HP:Hid ((pad0 q j).map (Value.int .u64) ++ [.int .u64 0]=(pad0 q (j+1)).map (Value.int .u64)):=by
          unfold Hid;rw [<- pad0_snoc (show q.length<=j by rw [av.out];exact bp),List.map_append];rfl
         have aZ:=own_apart af ai (by decide);have bq:=hid aZ;clear aZ;go_wp2_with (at_builtin;refine wpList_appV Tryz.underlying52 infoU rfl (by omega) _ rfl _ _ rfl w3.heap.size _ _ _ rfl af (.int .u64 0) rfl rfl (by omega) aY ?_;intro v' w7 ad aa _;rw [HP.out] at ad;have a9:=ai.kept aa bq.out;have ao:=aE.grown aa aY (λi hi=>(af.lt i hi).1);have ba:=am.grown aa am.size (λi hi=>Nat.le_trans ax.size (af.lt i hi).1);obtain ⟨a7,c7,rfl,_⟩:=own_slice ad;clear aa af ai aE am);go_roundw
         case rel=>exact ⟨j+1,by omega,by omega,rfl,ad,a9,ao,ba⟩
         case measure=>simp [slen];omega
        ·have bb:j=t+1:=by omega
         subst bb;rw [pad0_pdn bm.out (by rw [av.out];exact ar)] at af;obtain ⟨a6,c6,e6,br,_⟩:=Rd.own af (bd_u64 (pdn_bd q (t+1)));simp only [Value.slice.injEq,true_and] at e6;obtain ⟨rfl,rfl⟩:=e6;obtain ⟨a8,c8,e8,bu⟩:=RdI.own ai bl.out;simp only [Value.slice.injEq,true_and] at e8;obtain ⟨rfl,rfl⟩:=e8;clear af ai aE;go_wp2;go_ret3;exact ⟨_,B,0,_,_,_,_,_,_,rfl,aP.out,br,bu,am⟩
      ·have aR:Hid (Nope l k t e (s+1)):=nope_bad h.len HD.out HN.out ag.out ar aN (by omega);obtain ⟨NB,aD⟩:=nmd ((bdl (jn l s k) q k).length);obtain ⟨LQ,av⟩:=nmd q.length;rw [av.out,aD.out];rw [aD.out] at aX hbe;clear aM aN aO hO aC aK au aL;have a5:(e:Int)<(NB:Int):=by omega
       go_wp2;go_roundw
       case rel=>exact ⟨s+1,by omega,by go_num,aR,ay⟩
       case measure=>simp [intOf];omega
     ·have bw:(((N1:Nat):Int) != (t:Int)+1)=true:=by rw [bne_iff_ne];omega
      have aR:Hid (Nope l k t e (s+1)):=nope_skip HN.out (by rw [ag.out];exact hN1);go_wp2;go_roundw
      case rel=>exact ⟨s+1,by omega,by go_num,aR,aH⟩
      case measure=>simp [intOf];omega
  ·have bv:s=S:=by omega
   have HF:Hid (∀p,¬ Few l n t e p):=by have h1:=HN.out;rw [bv,aF.out] at h1;exact nope_end h1 hn
   have aP:Hid (Dcd l n t e [] [] 6):=.inr (.inr (.inr (.inr ⟨⟨⟨by omega,by omega⟩,HD.out⟩,⟨by omega,by omega⟩,by omega,HF.out,rfl,rfl,rfl⟩)));clear HF;go_wp2;go_ret3;exact ⟨_,_,6,_,_,_,_,_,_,rfl,aP.out,nil_rd _,nil_rdI _,aw⟩
theorem rDecode (t e a n c l w) (h:RdS w a n c l):
  Calls Tryz.prog 75 #[.int .i64 t,.int .i64 e,.slice a n c] w λen w'=>Dcs l n t e w en w':=by
 have af:=h.cap;have ad:=h.max;unfold maxLen at ad;by_cases hok:Shd l n t/\(0<=e/\e<=4)/\t+1+2*e<=(n:Int)
 ·obtain ⟨hS,he,hn⟩:=hok;have ht:=hS.1;obtain ⟨k,rfl⟩:∃k:Nat,t=k:=⟨t.toNat,by omega⟩;obtain ⟨d,rfl⟩:∃d:Nat,e=d:=⟨e.toNat,by omega⟩;exact rDecodeL _ _ _ _ _ _ _ h hS.2 (by omega) (by omega) (by omega)
 ·have ae:=hid hok;clear hok;go_enter Tryz.func75,Tryz.ntmps75;go_wp2_with fail;refine (rShares _ _ _ _ _ _ h).mono ?_;rintro en w1 ⟨r,rfl,hS,ab⟩;by_cases hr:r=0\/r=4
  ·have HS:Hid (Shd l n t):=hS.shd hr;have ag:=(hS.shd hr).1;clear hS;by_cases he:e<0\/4<e
   ·have HE:=hid he;have aa:Hid (Dcd l n t e [] [] 1):=.inr (.inl ⟨HS.out,he,rfl,rfl,rfl⟩);clear he;rcases hr with rfl | rfl
    all_goals
     go_wp2_with (go_at_call 35;refine (rInN _ _ _ _ HE.out).mono ?_;rintro en w' ⟨rfl,hw⟩;have hw:=hw.symm;subst hw);go_ret3;exact ⟨_,_,1,_,_,_,_,_,_,rfl,aa.out,nil_rd _,nil_rdI _,ab⟩
   ·have hn:(n:Int)<t+1+2*e:=by
     refine Int.not_le.1 λhh=>ae.out ⟨HS.out,⟨by omega,by omega⟩,hh⟩
    have aa:Hid (Dcd l n t e [] [] 4):=.inr (.inr (.inl ⟨HS.out,⟨by omega,by omega⟩,hn,rfl,rfl,rfl⟩));rcases hr with rfl | rfl
    all_goals
     go_wp2_with (go_at_call 35;refine (rInY _ _ _ _ (by omega) (by omega)).mono ?_;rintro en w' ⟨rfl,hw⟩;have hw:=hw.symm;subst hw);go_ret3;exact ⟨_,_,4,_,_,_,_,_,_,rfl,aa.out,nil_rd _,nil_rdI _,ab⟩
  ·have aa:Hid (Dcd l n t e [] [] r):=.inl ⟨⟨hS,λe=>hr (.inl e),λe=>hr (.inr e)⟩,rfl,rfl⟩;have ah:(r != 0)=true:=by rw [bne_iff_ne];omega
   have ai:(r != 4)=true:=by rw [bne_iff_ne];omega
   clear hr hS;go_wp2;go_ret3;exact ⟨_,_,r,_,_,_,_,_,_,rfl,aa.out,nil_rd _,nil_rdI _,ab⟩
theorem rRobust (t a n c l w) (h:RdS w a n c l):
  Calls Tryz.prog 33 #[.int .i64 t,.slice a n c] w λen w'=>Ros l n t w en w':=by
 go_enter Tryz.func33,Tryz.ntmps33;go_wp2_with fail;refine (rShares _ _ _ _ _ _ h).mono ?_;rintro en w1 ⟨r,rfl,hS,aa⟩;by_cases hr:r=0
 ·subst hr;have HS:=hid hS;obtain ⟨t0,t4,hd,ak,al⟩:=hS.ok;clear hd hS;go_wp2;go_loopw [8] (λi wr=>∃k:Nat,k<=4/\i = .int .i64 k/\(t+1+2*(k:Int)<=(n:Int))/\wr=w1) (λi _=>4-(intOf i).toNat)
  case atStart=>exact ⟨0,by omega,rfl,by omega,rfl⟩
  case round=>
   obtain ⟨k,hk,rfl,am,hw⟩:=hrel;have hw:=hw.symm;subst hw;by_cases hk4:k<4/\t+1+2*((k:Int)+1)<=(n:Int)
   ·obtain ⟨h1,h2⟩:=hk4;go_wp2;go_roundw
    case rel=>exact ⟨k+1,by omega,by go_num,by omega,by trivial⟩
    case measure=>simp [intOf];omega
   ·have HM:Hid ((k:Int)=mayb n t):=by unfold Hid mayb;omega
    have ab:¬ (k<4)\/(k<4/\¬ (t+1+2*((k:Int)+1)<=(n:Int))):=by omega
    have HR:Hid (Calls Tryz.prog 75 #[.int .i64 t,.int .i64 k,.slice a n c] w1 λen w'=>Dcs l n t k w1 en w'):=rDecode _ _ _ _ _ _ _ (h.below aa);clear hk4;rcases ab with ab | ⟨ab,an⟩
    all_goals
     go_wp2_with fail;refine HR.out.mono ?_;rintro en w2 ⟨P,B,s,a1,k1,c1,a2,k2,c2,rfl,hD,af,ah,ad⟩;rw [HM.out] at hD;have ae:=btr aa ad;by_cases hs:s=0
     ·subst hs;have HD:=hid hD;obtain ⟨ao,ag⟩:=dcd_head hD;have ap:=af.len;obtain ⟨b,o,x,rfl,aq,HX,ar,au,ai⟩:=af.one (show 0<k1 by omega);rw [Nat.add_zero] at ai;have av:(0:Int)<(k1:Int):=by omega
      have aj:Hid (nm x=x):=by
       have:=getD_bd' ag 0;rw [HX.out] at this;exact nm_small this.1 this.2
      have HN:Hid (Rob l n t x B 0):=.inr ⟨HS.out,P,B,0,HD.out,.inr ⟨rfl,HX.out.symm,rfl,rfl⟩⟩;clear hD ag ad HR;go_wp2_with (go_at_call 76;refine (rNorm _ _ (by omega) (by omega)).mono ?_;rintro en w' ⟨rfl,hw⟩;have hw:=hw.symm;subst hw;rw [aj.out]);go_ret3;exact ⟨x,B,0,_,_,_,rfl,HN.out,ah,ae⟩
     ·have aw:(s != 0)=true:=by rw [bne_iff_ne];exact hs
      have HN:Hid (Rob l n t 0 [] s):=.inr ⟨HS.out,P,B,s,hD,.inl ⟨hs,rfl,rfl,rfl⟩⟩;clear hD hs ad HR;go_wp2;go_ret3;exact ⟨0,[],s,_,_,_,rfl,HN.out,nil_rdI _,ae⟩
 ·have ax:(r != 0)=true:=by rw [bne_iff_ne];exact hr
  have HN:Hid (Rob l n t 0 [] r):=.inl ⟨hS,hr,rfl,rfl⟩;clear hr hS;go_wp2;go_ret3;exact ⟨0,[],r,_,_,_,rfl,HN.out,nil_rdI _,aa⟩
end
end Go.Proofs.YtljlioglpaogdacGreatDoor

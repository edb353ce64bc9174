/- AddC ProdC TakeC MxC RestC LeadC RedC -/
import Derived.Test.YtljlioglpaogdacGreatDoorToCheckC
import Derived.Deep.RegionWith
namespace Go.Proofs.YtljlioglpaogdacGreatDoor
set_option linter.unusedVariables false
set_option maxRecDepth 100000
set_option maxHeartbeats 8000000
section
open Crm Go.RowKit
theorem cAddTimes (g) (o n c:Nat) (L ab lb cb B) (t:Int) (w) (hL:Blk w g L) (hLb:∀x ∈ L,0<=x/\x<=18446744073709551615) (hB:Rd w ab lb cb B) (hne:∀x,ab=some x->x.block≠g) (hon:o+n<=L.length) (hlb:lb<=n) (hn:n<=1000000) (ht0:0<=t) (ht1:t<=18446744073709551615):
  Calls Tryz.prog 187 #[.slice (some ⟨g,o,none⟩) n c,.slice ab lb cb,.int .u64 t] w λe w'=>e = .returned (.tuple #[])/\Blk w' g (addAt L o B t lb)/\w.grownBy w' (some g):=by
 have aj:=hB.len;go_enter Tryz.func187,Tryz.ntmps187;go_wp2;go_loopw [10] (λi wr=>∃k:Nat,k<=lb/\i = .int .i64 k/\Blk wr g (addAt L o B t k)/\w.grownBy wr (some g)) (λi _=>lb-(intOf i).toNat)
 case atStart=>exact ⟨0,Nat.zero_le _,rfl,hL,World.grownBy.refl _ _⟩
 case round=>
  obtain ⟨k,hk,rfl,aa,ad⟩:=hrel;by_cases hlt:k<lb
  ·have ag:Rd wr ab lb cb B:=hB.grown ad (λx hx=>by simpa using hne x hx);obtain ⟨b,ob,x,rfl,hb,HX,ak,al,hc⟩:=ag.one hlt;have am:b≠g:=hne _ rfl;have ae:=aa.cell (i:=o+k) (by rw [addAt_len];omega);have an:=aa.frozen (o+k);obtain ⟨y,hy⟩:∃y,y=(addAt L o B t k).getD (o+k) 0:=⟨_,rfl⟩;have HY:Hid (y=L.getD (o+k) 0):=by rw [hy,addAt_getD,if_neg (by omega)];exact rfl
   have ao:0<=y/\y<=18446744073709551615:=by rw [hy];exact getD_bd (addAt_bd hLb o B t k) _
   rw [<- hy] at ae;clear hy;have hm:=nm_bd (t*x);have ap:(0:Int)<=(k:Int):=by omega
   have aq:(k:Int)<(n:Int):=by omega
   have af:Hid (Blk (wr.setCell ⟨g,o+k,none⟩ (.int .u64 (nm (y+nm (t*x))))) g (addAt L o B t (k+1))):=by
    have e:nm (y+nm (t*x))=nm (L.getD (o+k) 0+t*B.getD k 0):=by rw [nm_addr,HY.out,HX.out]
    rw [e];exact aa.set (o+k) _
   have ah:Hid (w.grownBy (wr.setCell ⟨g,o+k,none⟩ (.int .u64 (nm (y+nm (t*x))))) (some g)):=grown_trans ad (grown_set _ _ _ _);clear aa ad ag hB hL;go_wp2;go_region_with (first | (go_at_call 149;refine (fMul _ _ _ (by omega) (by omega) (by omega) (by omega)).mono ?_;rintro e w' ⟨rfl,rfl⟩) | (go_at_call 148;refine (fAdd _ _ _ (by omega) (by omega) (by omega) (by omega)).mono ?_;rintro e w' ⟨rfl,rfl⟩))
   all_goals
    go_wp2;go_roundw
    case rel=>exact ⟨k+1,by omega,by go_num,af.out,grown_drew ah.out⟩
    case measure=>simp [intOf];omega
  ·have ai:k=lb:=by omega
   subst ai;go_wp2;exact bodyPost_end (v:=.tuple #[]) (by simp [results,Tryz.results187,go_sem]) rfl ⟨rfl,aa,ad⟩
theorem get_getD {l:List Int} {k:Nat} (h:k<l.length):l[k]? = some (l.getD k 0):=by
 rw [List.getD_eq_getElem?_getD,List.getElem?_eq_getElem h];rfl
theorem addAt_pc (ps qs L:List Int) (m i:Nat) (hm:i+qs.length<=m) (hL:L=(List.range m).map λk=>nm (pc ps qs k i)):addAt L i qs (ps.getD i 0) qs.length=(List.range m).map λk=>nm (pc ps qs k (i+1)):=by
 apply List.ext_getElem?;intro k;have hl:L.length=m:=by rw [hL];simp
 by_cases hk:k<m
 ·have h1:k<(addAt L i qs (ps.getD i 0) qs.length).length:=by rw [addAt_len,hl];exact hk
  have e1:(addAt L i qs (ps.getD i 0) qs.length)[k]? = some ((addAt L i qs (ps.getD i 0) qs.length).getD k 0):=get_getD h1;rw [e1,addAt_getD,hl];have e2:L.getD k 0=nm (pc ps qs k i):=by rw [hL];simp [hk]
  have e3:((List.range m).map λk=>nm (pc ps qs k (i+1)))[k]? = some (nm (pc ps qs k (i+1))):=by simp [hk]
  rw [e3,e2,pc];congr 1;by_cases h:i<=k/\k<i+qs.length/\k<m
  ·rw [if_pos h,nm_addl,tm,if_pos h.1]
  ·rw [if_neg h,tm];have:=hm;split
   ·have:qs.getD (k-i) 0=0:=by rw [List.getD_eq_getElem?_getD,List.getElem?_eq_none (by omega)];rfl
    rw [this,Int.mul_zero,Int.add_zero]
   ·rw [Int.add_zero]
 ·rw [List.getElem?_eq_none (by rw [addAt_len,hl];omega),List.getElem?_eq_none (by simp;omega)]
theorem pc_bd (ps qs:List Int) (m i:Nat):∀x ∈ (List.range m).map (λk=>nm (pc ps qs k i)),0<=x/\x<=18446744073709551615:=by
 intro x hx;obtain ⟨k,_,rfl⟩:=List.mem_map.1 hx;have:=nm_bd (pc ps qs k i);omega
theorem cProduct (a n c xs b m d ys w) (h:Rd w a n c xs) (g:Rd w b m d ys) (hn0:0<n) (hm0:0<m) (hn:n<=1000) (hm:m<=1000):
  Calls Tryz.prog 188 #[.slice a n c,.slice b m d] w λe w'=>e = .returned (.slice (some ⟨w.heap.size,0,none⟩) (n+m-1) (n+m-1))/\Blk w' w.heap.size (cvl xs ys)/\Below w.heap.size w w':=by
 obtain ⟨i0,hi,al,am,an⟩:=info_parts info70;have ak:=h.len;have ae:=g.len;obtain ⟨r,hr⟩:∃r,r=n+m-1:=⟨_,rfl⟩;have av:(r:Int)=n+m-1:=by omega
 have HR:=hid hr;have aw:n<=r:=by omega
 have ax:m<=r:=by omega
 have ay:r<=2000:=by omega
 rw [<- hr];clear hr;go_enter Tryz.func188,Tryz.ntmps188;go_wp2_with (at_make;refine wpList_make_full _ rfl _ _ 52 rfl w.heap.size 70 i0 (.int .u64 0) 1 Tryz.underlying52 hi al am .i64 .i64 _ _ r rfl rfl (by omega) (by omega) (by rw [an];omega) (by unfold maxLen;omega) (Nat.le_refl _) ?_;intro w1 af ad);have ao:Blk w1 w.heap.size (List.replicate r 0):=Blk.made af;have ag:Below w.heap.size w w1:=(Below.refl _ _).grown ad (Nat.le_refl _) (by simp);clear af ad;go_loopw [17] (λi wr=>∃k:Nat,k<=n/\i = .int .i64 k/\Blk wr w.heap.size ((List.range r).map λq=>nm (pc xs ys q k))/\Below w.heap.size w wr) (λi _=>n-(intOf i).toNat)
 case atStart=>exact ⟨0,Nat.zero_le _,rfl,by have e:(List.range r).map (λq=>nm (pc xs ys q 0))=List.replicate r 0:=by { apply List.ext_getElem? ;intro q;by_cases hq:q<r <;> simp [hq,pc,nm] };rw [e];exact ao,ag⟩
 case round=>
  obtain ⟨k,hk,rfl,ab,aa⟩:=hrel;by_cases hlt:k<n
  ·have gR:=g.below aa;have ap:∀x,b=some x->x.block≠w.heap.size:=by
    intro x hx;obtain ⟨b',o',e,az,_⟩:=g.at hm0;rw [e] at hx;obtain rfl:=Option.some.inj hx;simp only;omega
   obtain ⟨b1,o1,x,rfl,hb,HX,aq,ar,hc⟩:=(h.below aa).one hlt;have aA:¬ r=k:=by omega
   have HS:Hid (addAt ((List.range r).map λq=>nm (pc xs ys q k)) k ys x m=(List.range r).map λq=>nm (pc xs ys q (k+1))):=by
    have:=addAt_pc xs ys _ r k (by omega) rfl;rw [<- HX.out];rwa [ae] at this
   go_wp2_with (go_at_call 187;refine (cAddTimes _ _ _ _ _ _ _ _ _ _ _ ab (pc_bd xs ys r k) gR ap (by simp;omega) (by omega) (by omega) aq ar).mono ?_;rintro e w2 ⟨rfl,ai,aj⟩;rw [HS.out] at ai;have ah:=below_grown aa aj (Nat.le_refl _);clear ab aa aj gR hc);go_roundw
   case rel=>exact ⟨k+1,by omega,by go_num,ai,ah⟩
   case measure=>simp [intOf];omega
  ·have au:k=n:=by omega
   subst au;go_wp2;go_ret;refine ⟨rfl,?_,aa⟩
   unfold cvl;rw [ak,ae,<- HR.out];exact ab
structure Tk (L D:List Int) (t:Int) (k:Nat) (A:List Int):Prop where
 len:A.length=L.length
 bd:∀x ∈ A,0<=x/\x<=2147483646
 at_:∀j,j<L.length->A.getD j 0=if j<k then nm (L.getD j 0-t*D.getD j 0) else L.getD j 0
theorem set_bd {A:List Int} {k:Nat} {v:Int} (h:∀x ∈ A,0<=x/\x<=2147483646) (hv:0<=v/\v<=2147483646):∀x ∈ A.set k v,0<=x/\x<=2147483646:=λx hx=>by
 rcases List.mem_or_eq_of_mem_set hx with h1 | h1
 ·exact h x h1
 ·rw [h1];exact hv
theorem tk_start (L D:List Int) (t:Int) (h:∀x ∈ L,0<=x/\x<=2147483646):Tk L D t 0 L:=⟨rfl,h,λj _=>by rw [if_neg (by omega)]⟩
theorem tk_step {L D A t k} (h:Tk L D t k A) (hk:k<L.length) {v:Int} (hv:v=nm (L.getD k 0-t*D.getD k 0)):Tk L D t (k+1) (A.set k v):=by
 refine ⟨by rw [List.length_set];exact h.len,set_bd h.bd (by rw [hv];exact nm_bd _),λj hj=>?_⟩
 rw [getD_set];by_cases e:j=k
 ·subst e;rw [if_pos ⟨rfl,by rw [h.len];exact hk⟩,if_pos (by omega),hv]
 ·rw [if_neg (by omega),h.at_ j hj];by_cases e2:j<k
  ·rw [if_pos e2,if_pos (by omega)]
  ·rw [if_neg e2,if_neg (by omega)]
theorem cTake (g n L ab cb D) (t:Int) (w) (hL:Blk w g L) (hLb:∀x ∈ L,0<=x/\x<=2147483646) (hD:Rd w ab n cb D) (hne:∀x,ab=some x->x.block≠g) (hln:L.length=n) (hn:n<=1000000) (ht0:0<=t) (ht1:t<=18446744073709551615):
  Calls Tryz.prog 235 #[.slice (some ⟨g,0,none⟩) n n,.slice ab n cb,.int .u64 t] w λe w'=>∃A,e = .returned (.tuple #[])/\Tk L D t n A/\Blk w' g A/\w.grownBy w' (some g):=by
 have ak:=hD.len;go_enter Tryz.func235,Tryz.ntmps235;go_wp2;go_loopw [10] (λi wr=>∃(k:Nat) (A:List Int),k<=n/\i = .int .i64 k/\Hid (Tk L D t k A)/\Blk wr g A/\w.grownBy wr (some g)) (λi _=>n-(intOf i).toNat)
 case atStart=>exact ⟨0,L,Nat.zero_le _,rfl,tk_start L D t hLb,hL,World.grownBy.refl _ _⟩
 case round=>
  obtain ⟨k,A,hk,rfl,HT,aa,ad⟩:=hrel;have al:A.length=n:=by rw [HT.out.len];exact hln
  by_cases hlt:k<n
  ·have ag:Rd wr ab n cb D:=hD.grown ad (λx hx=>by simpa using hne x hx);obtain ⟨b,ob,x,rfl,hb,HX,am,an,hc⟩:=ag.one hlt;have ao:b≠g:=hne _ rfl;have ae:=aa.cell (i:=k) (by omega);have ap:=aa.frozen k;obtain ⟨y,hy⟩:∃y,y=A.getD k 0:=⟨_,rfl⟩;have HY:Hid (y=L.getD k 0):=by rw [hy,HT.out.at_ _ (by omega),if_neg (by omega)];exact rfl
   have aq:0<=y/\y<=2147483646:=by rw [hy];exact getD_bd' HT.out.bd _
   rw [<- hy] at ae;clear hy;have hm:=nm_bd (t*x);have ar:(0:Int)<=(k:Int):=by omega
   have au:(k:Int)<(n:Int):=by omega
   have ai:Hid (Tk L D t (k+1) (A.set k (nm (y-nm (t*x))))):=tk_step HT.out (by omega) (by rw [nm_subr,HY.out,HX.out]);have af:Hid (Blk (wr.setCell ⟨g,k,none⟩ (.int .u64 (nm (y-nm (t*x))))) g (A.set k (nm (y-nm (t*x))))):=aa.set k _;have ah:Hid (w.grownBy (wr.setCell ⟨g,k,none⟩ (.int .u64 (nm (y-nm (t*x))))) (some g)):=grown_trans ad (grown_set _ _ _ _);clear aa ad ag hD hL HT;go_wp2;go_region_with (first | (go_at_call 149;refine (fMul _ _ _ (by omega) (by omega) (by omega) (by omega)).mono ?_;rintro e w' ⟨rfl,rfl⟩) | (go_at_call 158;refine (fSub _ _ _ (by omega) (by omega) (by omega) (by omega)).mono ?_;rintro e w' ⟨rfl,rfl⟩))
   all_goals
    go_wp2;go_roundw
    case rel=>exact ⟨k+1,_,by omega,by go_num,ai,af.out,grown_drew ah.out⟩
    case measure=>simp [intOf];omega
  ·have aj:k=n:=by omega
   subst aj;go_wp2;exact bodyPost_end (v:=.tuple #[]) (by simp [results,Tryz.results235,go_sem]) rfl ⟨A,rfl,HT.out,aa,ad⟩
structure Mx (w:World) (lo hi gl n W:Nat) (G:Nat->Nat) (M:Nat->List Int):Prop where
 lst:∃cur:Array Value,w.heap[gl]? = some (.cells cur 52 (0,0))/\cur.size=n/\∀i,i<n->cur[i]? = some (.slice (some ⟨G i,0,none⟩) W W)
 gb:lo<=gl/\gl<hi
 rng:∀i,i<n->lo<=G i/\G i<hi/\G i≠gl
 inj:∀i j,i<n->j<n->G i=G j->i=j
 row:∀i,i<n->Blk w (G i) (M i)
 wid:∀i,i<n->(M i).length=W
 bd:∀i,i<n->∀x ∈ M i,0<=x/\x<=2147483646
 hw:hi<=w.heap.size
structure Fr (lo hi:Nat) (w w':World):Prop where
 os:w'.os=w.os
 tape:w'.tape=w.tape
 output:w'.output=w.output
 size:w.heap.size<=w'.heap.size
 block:∀k,k<w.heap.size->(k<lo\/hi<=k)->w'.heap[k]? = w.heap[k]?
theorem Fr.refl (lo hi:Nat) (w:World):Fr lo hi w w:=⟨rfl,rfl,rfl,Nat.le_refl _,λ_ _ _=>rfl⟩
theorem Fr.trans {lo hi a b c} (h:Fr lo hi a b) (k:Fr lo hi b c):Fr lo hi a c:=
 ⟨k.os.trans h.os,k.tape.trans h.tape,k.output.trans h.output,Nat.le_trans h.size k.size,λi hi hr=>(k.block i (Nat.lt_of_lt_of_le hi h.size) hr).trans (h.block i hi hr)⟩
theorem Fr.grown {lo hi g:Nat} {w w':World} (h:w.grownBy w' (some g)) (h1:lo<=g) (h2:g<hi):Fr lo hi w w':=
 ⟨h.os,h.tape,h.output,h.size,λk hk hr=>h.block k hk (by simp;omega)⟩
theorem Fr.below {lo hi w w'} (h:Fr lo hi w w') (hl:lo<=w.heap.size):Below lo w w':=⟨h.os,h.tape,h.output,h.size,λk hk=>h.block k (by omega) (.inl hk)⟩
theorem Fr.drew {lo hi w w'} (h:Fr lo hi w w'):Fr lo hi w w'.drew:=⟨h.os,h.tape,h.output,h.size,h.block⟩
theorem Fr.own {lo hi w w'} (h:Fr lo hi w w') {E:TypeId} {v:Value} {n base:Nat} {xs:List Value} (hbase:hi<=base) (ho:w.ownsRow base E 1 v n xs):w'.ownsRow base E 1 v n xs:=by
 refine ⟨ho.1,?_⟩
 rcases ho.2 with hn | ⟨g,ad,ae,rfl,hb,aa,ab⟩
 ·exact .inl hn
 ·exact .inr ⟨g,ad,ae,rfl,hb,by rw [h.block g (Array.getElem?_eq_some_iff.1 aa).1 (.inr (by omega))];exact aa,ab⟩
theorem Fr.own_grown {lo hi w w'} {w'':World} {row:Option Nat} (h:Fr lo hi w w') (hg:w'.grownBy w'' row) (hr:∀k,row=some k->w.heap.size<=k):Fr lo hi w w'':=
 ⟨hg.os.trans h.os,hg.tape.trans h.tape,hg.output.trans h.output,Nat.le_trans h.size hg.size,λk hk hkr=>(hg.block k (Nat.lt_of_lt_of_le hk h.size) (λe=>by have:=hr k e.symm;omega)).trans (h.block k hk hkr)⟩
theorem Mx.cell {w lo hi gl n W G M} (h:Mx w lo hi gl n W G M) {i:Nat} (hi':i<n):w.cell? ⟨gl,i,none⟩=some (.slice (some ⟨G i,0,none⟩) W W):=by
 obtain ⟨aa,h1,h2,h3⟩:=h.lst;rw [cell_of_row w gl i _ _ (0,0) h1];exact h3 i hi'
theorem Mx.frozen {w lo hi gl n W G M} (h:Mx w lo hi gl n W G M) (i:Nat):w.frozen? ⟨gl,i,none⟩=false:=by
 obtain ⟨aa,h1,h2,h3⟩:=h.lst;exact frozen_of_row w gl i _ _ h1
theorem Mx.num {w lo hi gl n W G M} (h:Mx w lo hi gl n W G M) {i j:Nat} (hi':i<n) (hj:j<W):w.cell? ⟨G i,j,none⟩=some (.int .u64 ((M i).getD j 0)):=(h.row i hi').cell (by rw [h.wid i hi'];exact hj)
theorem Mx.rd {w lo hi gl n W G M} (h:Mx w lo hi gl n W G M) {i:Nat} (hi':i<n) (hm:W<=maxLen):Rd w (some ⟨G i,0,none⟩) W W (M i):=(h.row i hi').whole W (h.wid i hi').symm hm (bd_u64 (h.bd i hi'))
theorem Mx.nbd {w lo hi gl n W G M} (h:Mx w lo hi gl n W G M) {i:Nat} (hi':i<n) (j:Nat):0<=(M i).getD j 0/\(M i).getD j 0<=2147483646:=getD_bd' (h.bd i hi') j
theorem Mx.below {w lo hi gl n W G M} (h:Mx w lo hi gl n W G M) {w'} (hb:Below hi w w'):Mx w' lo hi gl n W G M:=by
 refine ⟨?_,h.gb,h.rng,h.inj,λi hi'=>?_,h.wid,h.bd,Nat.le_trans h.hw hb.size⟩
 ·obtain ⟨aa,h1,h2⟩:=h.lst;exact ⟨aa,by rw [hb.block gl h.gb.2];exact h1,h2⟩
 ·exact (h.row i hi').below hb (h.rng i hi').2.1
theorem Mx.drew {w lo hi gl n W G M} (h:Mx w lo hi gl n W G M):Mx w.drew lo hi gl n W G M:=⟨h.lst,h.gb,h.rng,h.inj,h.row,h.wid,h.bd,h.hw⟩
theorem Mx.put {w lo hi gl n W G M} (h:Mx w lo hi gl n W G M) {w':World} {i:Nat} (hi':i<n) (hg:w.grownBy w' (some (G i))) {A} (hA:Blk w' (G i) A) (hl:A.length=W) (hb:∀x ∈ A,0<=x/\x<=2147483646):
  Mx w' lo hi gl n W G (λk=>if k=i then A else M k):=by
 refine ⟨?_,h.gb,h.rng,h.inj,λk hk=>?_,λk hk=>?_,λk hk=>?_,Nat.le_trans h.hw hg.size⟩
 ·obtain ⟨aa,h1,h2⟩:=h.lst;refine ⟨aa,?_,h2⟩
  rw [hg.block gl (Array.getElem?_eq_some_iff.1 h1).1 (by simpa using (h.rng i hi').2.2.symm)];exact h1
 ·by_cases e:k=i
  ·subst e;simpa using hA
  ·rw [if_neg e];exact (h.row k hk).grown hg (by simp only [ne_eq,Option.some.injEq];exact λe2=>e (h.inj k i hk hi' e2))
 ·by_cases e:k=i
  ·rw [if_pos e];exact hl
  ·rw [if_neg e];exact h.wid k hk
 ·by_cases e:k=i
  ·rw [if_pos e];exact hb
  ·rw [if_neg e];exact h.bd k hk
theorem Mx.swap {w lo hi gl n W G M} (h:Mx w lo hi gl n W G M) {k p:Nat} (hk:k<n) (hp:p<n):
  Mx ((w.setCell ⟨gl,k,none⟩ (.slice (some ⟨G p,0,none⟩) W W)).setCell ⟨gl,p,none⟩ (.slice (some ⟨G k,0,none⟩) W W)) lo hi gl n W (λi=>G (if i=k then p else if i=p then k else i)) (λi=>M (if i=k then p else if i=p then k else i)):=by
 have hs:∀i,i<n->(if i=k then p else if i=p then k else i)<n:=λi hi=>by split <;> (try split) <;> omega
 have aa:∀g,g≠gl->((w.setCell ⟨gl,k,none⟩ (.slice (some ⟨G p,0,none⟩) W W)).setCell ⟨gl,p,none⟩ (.slice (some ⟨G k,0,none⟩) W W)).heap[g]? = w.heap[g]?:=λg hg=>by
  rw [heap_setCell_other _ _ _ _ (by simpa using hg),heap_setCell_other _ _ _ _ (by simpa using hg)]
 refine ⟨?_,h.gb,λi hi=>h.rng _ (hs i hi),λi j hi hj e=>?_,λi hi=>?_,λi hi=>h.wid _ (hs i hi),λi hi=>h.bd _ (hs i hi),by simpa using h.hw⟩
 ·obtain ⟨ab,h1,h2,h3⟩:=h.lst;refine ⟨_,heap_setCell_same _ gl p _ _ _ (heap_setCell_same w gl k _ _ _ h1),by simpa using h2,λi hi=>?_⟩
  rw [Array.getElem?_setIfInBounds,Array.getElem?_setIfInBounds];by_cases e1:p=i
  ·subst e1;by_cases e2:p=k
   ·subst e2;simp [h2,hp]
   ·simp [h2,hp,e2]
  ·by_cases e2:k=i
   ·subst e2;simp [h2,hk,e1]
   ·rw [if_neg e1,if_neg e2,h3 i hi,if_neg (λe=>e2 e.symm),if_neg (λe=>e1 e.symm)]
 ·have:=h.inj _ _ (hs i hi) (hs j hj) e;split at this <;> split at this <;> (try split at this) <;> (try split at this) <;> omega
 ·unfold Blk;rw [aa _ (h.rng _ (hs i hi)).2.2];exact h.row _ (hs i hi)
theorem fr_set2 (w:World) {lo hi gl:Nat} (h1:lo<=gl) (h2:gl<hi) (k p:Nat) (u v:Value):Fr lo hi w ((w.setCell ⟨gl,k,none⟩ u).setCell ⟨gl,p,none⟩ v):=
 (Fr.grown (grown_set w gl k u) h1 h2).trans (Fr.grown (grown_set _ gl p v) h1 h2)
theorem cell?_setCell_some {w:World} {p q:Addr} {x v:Value} (h:w.cell? q=some v):∃v',(w.setCell p x).cell? q=some v':=by
 by_cases e:p=q
 ·subst e;exact ⟨x,World.cell?_setCell_same w p x h⟩
 ·exact ⟨v,(World.cell?_setCell_other w p q x e).trans h⟩
structure Sc (L:List Int) (u:Int) (k:Nat) (A:List Int):Prop where
 len:A.length=L.length
 bd:∀x ∈ A,0<=x/\x<=2147483646
 at_:∀j,j<L.length->A.getD j 0=if j<k then nm (L.getD j 0*u) else L.getD j 0
theorem sc_start (L:List Int) (u:Int) (h:∀x ∈ L,0<=x/\x<=2147483646):Sc L u 0 L:=⟨rfl,h,λj _=>by rw [if_neg (by omega)]⟩
theorem sc_step {L A u k} (h:Sc L u k A) (hk:k<L.length) {v:Int} (hv:v=nm (L.getD k 0*u)):Sc L u (k+1) (A.set k v):=by
 refine ⟨by rw [List.length_set];exact h.len,set_bd h.bd (by rw [hv];exact nm_bd _),λj hj=>?_⟩
 rw [getD_set];by_cases e:j=k
 ·subst e;rw [if_pos ⟨rfl,by rw [h.len];exact hk⟩,if_pos (by omega),hv]
 ·rw [if_neg (by omega),h.at_ j hj];by_cases e2:j<k
  ·rw [if_pos e2,if_pos (by omega)]
  ·rw [if_neg e2,if_neg (by omega)]
theorem infoU:(Tryz.prog.info? 70).map (λi=>(i.zero,i.size,i.bytes))=some (some (.int .u64 0),1,8):=by kernel_rfl
theorem infoV:(Tryz.prog.info? 52).map (λi=>(i.zero,i.size,i.bytes))=some (some (.slice none 0 0),1,24):=by kernel_rfl
structure Nz (L:List Int) (k:Nat) (A:List Int):Prop where
 len:A.length=L.length
 bd:∀x ∈ A,0<=x/\x<=2147483646
 at_:∀j,j<k->A.getD j 0=nm (L.getD j 0)
theorem nz_start (L:List Int) (n:Nat) (h:L.length=n):Nz L 0 (List.replicate n 0):=⟨by simp [h],λx hx=>by rw [List.eq_of_mem_replicate hx];omega,λj hj=>by omega⟩
theorem nz_step {L A k} (h:Nz L k A) (hk:k<L.length) {v:Int} (hv:v=nm (L.getD k 0)):Nz L (k+1) (A.set k v):=by
 refine ⟨by rw [List.length_set];exact h.len,set_bd h.bd (by rw [hv];exact nm_bd _),λj hj=>?_⟩
 rw [getD_set];by_cases e:j=k
 ·subst e;rw [if_pos ⟨rfl,by rw [h.len];exact hk⟩,hv]
 ·rw [if_neg (by omega),h.at_ j (by omega)]
structure Mp (w:World) (lo gl n W i:Nat) (G:Nat->Nat) (M:Nat->List Int):Prop where
 lst:∃cur:Array Value,w.heap[gl]? = some (.cells cur 52 (0,0))/\cur.size=n/\∀r,r<i->cur[r]? = some (.slice (some ⟨G r,0,none⟩) W W)
 gb:lo<=gl
 rng:∀r,r<i->lo<=G r/\G r<w.heap.size/\G r≠gl
 inj:∀r s,r<i->s<i->G r=G s->r=s
 row:∀r,r<i->Blk w (G r) (M r)
 wid:∀r,r<i->(M r).length=W
 bd:∀r,r<i->∀x ∈ M r,0<=x/\x<=2147483646
theorem Mp.lt {w lo gl n W i G M} (h:Mp w lo gl n W i G M):gl<w.heap.size:=by
 obtain ⟨aa,h1,_⟩:=h.lst;exact (Array.getElem?_eq_some_iff.1 h1).1
theorem Mp.has {w lo gl n W i G M} (h:Mp w lo gl n W i G M) {r:Nat} (hr:r<n):∃u,w.cell? ⟨gl,r,none⟩=some u:=by
 obtain ⟨aa,h1,h2,h3⟩:=h.lst;rw [cell_of_row w gl r _ _ (0,0) h1];exact ⟨_,Array.getElem?_eq_getElem (by omega)⟩
theorem Mp.frozen {w lo gl n W i G M} (h:Mp w lo gl n W i G M) (r:Nat):w.frozen? ⟨gl,r,none⟩=false:=by
 obtain ⟨aa,h1,h2,h3⟩:=h.lst;exact frozen_of_row w gl r _ _ h1
theorem Mp.grown {w lo gl n W i G M} (h:Mp w lo gl n W i G M) {w':World} (hg:w.grownBy w' none):Mp w' lo gl n W i G M:=by
 refine ⟨?_,h.gb,λr hr=>⟨(h.rng r hr).1,Nat.lt_of_lt_of_le (h.rng r hr).2.1 hg.size,(h.rng r hr).2.2⟩,h.inj,λr hr=>(h.row r hr).grown hg (by simp),h.wid,h.bd⟩
 obtain ⟨aa,h1,h2⟩:=h.lst;exact ⟨aa,by rw [hg.block gl (Array.getElem?_eq_some_iff.1 h1).1 (by simp)];exact h1,h2⟩
theorem Mp.next {w lo gl n W i G M} (h:Mp w lo gl n W i G M) {g:Nat} {w1 w2:World} {A} (hi:i<n) (h0:w.grownBy w1 none) (hgg:w.heap.size<=g) (hg1:g<w1.heap.size) (hg2:(w1.setCell ⟨gl,i,none⟩ (.slice (some ⟨g,0,none⟩) W W)).grownBy w2 (some g)) (hlo:lo<=g) (hA:Blk w2 g A) (hl:A.length=W) (hb:∀x ∈ A,0<=x/\x<=2147483646):
  Mp w2 lo gl n W (i+1) (λr=>if r=i then g else G r) (λr=>if r=i then A else M r):=by
 have ae:=h.lt;have h':=h.grown h0;have af:w1.heap.size<=w2.heap.size:=by have:=hg2.size;simpa using this
 refine ⟨?_,h.gb,λr hr=>?_,λr s hr hs e=>?_,λr hr=>?_,λr hr=>?_,λr hr=>?_⟩
 ·obtain ⟨ab,h1,h2,h3⟩:=h'.lst;refine ⟨ab.setIfInBounds i (.slice (some ⟨g,0,none⟩) W W),?_,by simpa using h2,λr hr=>?_⟩
  ·rw [hg2.block gl (by simpa using h'.lt) (by simp;omega)];exact heap_setCell_same w1 gl i _ _ _ h1
  ·rw [Array.getElem?_setIfInBounds];by_cases e:i=r
   ·subst e;simp [h2,hi]
   ·rw [if_neg e,h3 r (by omega),if_neg (λe2=>e e2.symm)]
 ·by_cases e:r=i
  ·simp only [if_pos e];exact ⟨hlo,by omega,by omega⟩
  ·simp only [if_neg e];have:=h'.rng r (by omega);exact ⟨this.1,by omega,this.2.2⟩
 ·by_cases e1:r=i
  ·by_cases e2:s=i
   ·omega
   ·simp only [if_pos e1,if_neg e2] at e;have:=h.rng s (by omega);omega
  ·by_cases e2:s=i
   ·simp only [if_neg e1,if_pos e2] at e;have:=h.rng r (by omega);omega
   ·simp only [if_neg e1,if_neg e2] at e;exact h.inj r s (by omega) (by omega) e
 ·by_cases e:r=i
  ·simp only [if_pos e];exact hA
  ·simp only [if_neg e];have ad:=h.rng r (by omega);have aa:=h'.row r (by omega);unfold Blk at aa ⊢;rw [hg2.block _ (by simp;have:=h'.rng r (by omega);omega) (by simp;omega),heap_setCell_other _ _ _ _ (by simpa using ad.2.2)];exact aa
 ·by_cases e:r=i
  ·simp only [if_pos e];exact hl
  ·simp only [if_neg e];exact h.wid r (by omega)
 ·by_cases e:r=i
  ·simp only [if_pos e];exact hb
  ·simp only [if_neg e];exact h.bd r (by omega)
theorem Mp.mx {w lo gl n W i G M} (h:Mp w lo gl n W i G M) (hi:i=n):Mx w lo w.heap.size gl n W G M:=by
 subst hi;exact ⟨h.lst,⟨h.gb,h.lt⟩,h.rng,h.inj,h.row,h.wid,h.bd,Nat.le_refl _⟩
theorem cRests (a n c) (W:Nat) (rs w) (h:RdR w a n c rs) (hw:∀i,i<n->(rs.getD i []).length=W) (hn:n<=1000) (hW:W<=1000):
  Calls Tryz.prog 224 #[.slice a n c] w λe w'=>∃G M,e = .returned (.slice (some ⟨w.heap.size,0,none⟩) n n)/\Mx w' w.heap.size w'.heap.size w.heap.size n W G M/\
   (∀i j,i<n->j<W->(M i).getD j 0=nm (mat rs i j))/\Below w.heap.size w w':=by
 obtain ⟨i0,hi,aA,aB,aC⟩:=info_parts infoU;obtain ⟨i1,gi,aD,aE,aF⟩:=info_parts infoV;go_enter Tryz.func224,Tryz.ntmps224;go_wp2_with (at_make;refine wpList_make_full _ rfl _ _ 90 rfl w.heap.size 52 i1 (.slice none 0 0) 1 Tryz.underlying90 gi aD aE .i64 .i64 _ _ n rfl rfl (by omega) (by omega) (by rw [aF];omega) (by unfold maxLen;omega) (Nat.le_refl _) ?_;intro w1 ae aa);have hM:Mp w1 w.heap.size w.heap.size n W 0 (λ_=>0) (λ_=>[]):=by
  refine ⟨?_,Nat.le_refl _,λr hr=>by omega,λr s hr=>by omega,λr hr=>by omega,λr hr=>by omega,λr hr=>by omega⟩
  rcases ae.2 with ⟨h',_⟩ | ⟨g',aW,aG,h',_,hg,_,_,hs,aV⟩
  ·simp at h'
  ·simp only [Value.slice.injEq,Option.some.injEq,Addr.mk.injEq,and_true,true_and] at h';obtain ⟨rfl,rfl⟩:=h';exact ⟨aG,hg,by omega,λr hr=>by omega⟩
 have ab:Below w.heap.size w w1:=(Below.refl _ _).grown aa (Nat.le_refl _) (by simp);clear ae aa;go_loopw [13] (λi wr=>∃(k:Nat) (G:Nat->Nat) (M:Nat->List Int),k<=n/\i = .int .i64 k/\Mp wr w.heap.size w.heap.size n W k G M/\Hid (∀i j,i<k->j<W->(M i).getD j 0=nm (mat rs i j))/\Below w.heap.size w wr) (λi _=>n-(intOf i).toNat)
 case atStart=>exact ⟨0,_,_,Nat.zero_le _,rfl,hM,λi j hi=>by omega,ab⟩
 case round=>
  clear hM ab;obtain ⟨k,G,M,hk,rfl,hM,HV,ab⟩:=hrel;obtain ⟨wo,aH⟩:∃wo,wo=wr:=⟨_,rfl⟩;subst aH;have aI:=hM.lt;by_cases hlt:k<n
  ·obtain ⟨b,o,ai,ni,ci,row,rfl,aJ,al,am,ag⟩:=h.one hlt;have aK:wo.cell? ⟨b,o+k,none⟩=some (.slice ai ni ci):=by rw [ab.cell aJ];exact am
   have aL:ni=W:=by have:=hw k hlt;rw [al.out] at this;rw [<- ag.len];exact this
   subst aL;obtain ⟨u0,ar⟩:=hM.has hlt;have an:=hM.frozen k;go_wp2_with (first | (at_make;refine wpList_make_full _ rfl _ _ 52 rfl wo.heap.size 70 i0 (.int .u64 0) 1 Tryz.underlying52 hi aA aB .i64 .i64 _ _ ni rfl rfl (by omega) (by omega) (by rw [aC];omega) (by unfold maxLen;omega) (Nat.le_refl _) ?_;intro w2 ae aa;have au:w2.cell? ⟨w.heap.size,k,none⟩=some u0:=aa.cell ar (by simp);have aw:w2.frozen? ⟨w.heap.size,k,none⟩=false:=by rw [World.frozen?_of_block (w:=wo) (aa.block _ aI (by simp))];exact an) | fail);have ao:Blk w2 wo.heap.size (List.replicate ni 0):=Blk.made ae;have aM:wo.heap.size<w2.heap.size:=ao.lt;obtain ⟨w3,af⟩:∃w3,w3=w2.setCell ⟨w.heap.size,k,none⟩ (.slice (some ⟨wo.heap.size,0,none⟩) ni ni):=⟨_,rfl⟩;have ap:w2.grownBy w3 (some w.heap.size):=by rw [af];exact grown_set _ _ _ _
   have av:Blk w3 wo.heap.size (List.replicate ni 0):=ao.grown ap (by simp;omega);have aN:w3.cell? ⟨w.heap.size,k,none⟩=some (.slice (some ⟨wo.heap.size,0,none⟩) ni ni):=by rw [af];exact World.cell?_setCell_same w2 _ _ au
   have ah:Below w.heap.size w w3:=by
    rw [af];exact ((ab.grown aa ab.size (by simp)).setCell (Nat.le_refl _) _)
   have aj:∀(w4:World) (A:List Int),w3.grownBy w4 (some wo.heap.size)->Blk w4 wo.heap.size A->Nz row ni A->∃G' M',Mp w4 w.heap.size w.heap.size n ni (k+1) G' M'/\Hid (∀i j,i<k+1->j<ni->(M' i).getD j 0=nm (mat rs i j))/\Below w.heap.size w w4:=λw4 A ad hA hN=>
    ⟨_,_,hM.next hlt aa (Nat.le_refl _) aM (by rw [<- af];exact ad) ab.size hA (by rw [hN.len];exact ag.len) hN.bd,λi j hi' hj=>by
     by_cases e:i=k
     ·simp only [if_pos e];rw [hN.at_ j hj,e];unfold mat;rw [al.out]
     ·simp only [if_neg e];exact HV.out i j (by omega) hj,below_grown ah ad ab.size⟩
   rw [<- af];have ak:Rd w3 ai ni ci row:=ag.below ah;have aX:wo.heap.size<w3.heap.size:=av.lt;clear hM HV ae aa au aw ao ap af aK am ar an;have aY:=ab.size;go_wp2;go_loopw [26] (λi wr=>∃(j:Nat) (A:List Int),j<=ni/\i = .int .i64 j/\Hid (Nz row j A)/\Blk wr wo.heap.size A/\w3.grownBy wr (some wo.heap.size)) (λi _=>ni-(intOf i).toNat)
   case atStart=>exact ⟨0,_,Nat.zero_le _,rfl,nz_start _ _ ak.len,av,World.grownBy.refl _ _⟩
   case round=>
    obtain ⟨j,A,hj,rfl,HN,hA,ad⟩:=hrel;have ax:=ak.len;have aZ:A.length=ni:=by rw [HN.out.len];exact ax
    by_cases hjn:j<ni
    ·obtain ⟨b',o',x,rfl,aO,HX,a0,a1,ay⟩:=ag.one hjn;have a2:wr.cell? ⟨b',o'+j,none⟩=some (.int .u64 x):=ad.cell (by rw [ah.cell aO];exact ay) (by simp;omega);have a3:wr.cell? ⟨w.heap.size,k,none⟩=some (.slice (some ⟨wo.heap.size,0,none⟩) ni ni):=ad.cell aN (by simp;omega);have a4:=hA.cell (i:=j) (by omega);have a5:=hA.frozen j;have aP:Hid (Nz row (j+1) (A.set j (nm x))):=nz_step HN.out (by omega) (by rw [HX.out]);have aQ:Hid (Blk (wr.setCell ⟨wo.heap.size,j,none⟩ (.int .u64 (nm x))) wo.heap.size (A.set j (nm x))):=hA.set j _;have aR:Hid (w3.grownBy (wr.setCell ⟨wo.heap.size,j,none⟩ (.int .u64 (nm x))) (some wo.heap.size)):=grown_trans ad (grown_set _ _ _ _);clear HN hA ad aj;go_wp2;go_region_with (first | (go_at_call 143;refine (fNorm _ _ (by omega) (by omega)).mono ?_;rintro e w' ⟨rfl,rfl⟩))
     all_goals
      go_wp2;go_roundw
      case rel=>exact ⟨j+1,_,by omega,by go_num,aP,aQ.out,grown_drew aR.out⟩
      case measure=>simp [intOf];omega
    ·have az:j=ni:=by omega
     subst az;obtain ⟨G',M',aS,aT,aq⟩:=aj _ _ ad hA HN.out;go_wp2;go_roundw
     case rel=>exact ⟨k+1,G',M',by omega,by go_num,aS,aT,aq⟩
     case measure=>simp [intOf];omega
  ·have aU:k=n:=by omega
   subst aU;go_wp2;go_ret;exact ⟨G,M,rfl,hM.mx rfl,HV.out,ab⟩
def Led (n W k p c:Nat) (M N:Nat->List Int):Prop:=
 ∀i j,i<n->j<W->(N i).getD j 0=if i=k then nm ((M p).getD j 0*iv ((M p).getD c 0)) else if i=p then (M k).getD j 0 else (M i).getD j 0
theorem cLead (a:Option Addr) (k m c:Nat) (W lo hi gl G M w) (h:Mx w lo hi gl (k+m) W G M) (ha:0<m->a=some ⟨gl,k,none⟩) (hc:c<W) (hW:W<=1000) (hm:m<=1000):
  Calls Tryz.prog 234 #[.slice a m m,.int .i64 c] w λe w'=>(e = .returned (.bool false)/\w'=w/\∀i,k<=i->i<k+m->(M i).getD c 0=0)\/
   (∃p G' N,e = .returned (.bool true)/\k<=p/\p<k+m/\nm ((M p).getD c 0)≠0/\Mx w' lo hi gl (k+m) W G' N/\Led (k+m) W k p c M N/\Fr lo hi w w'):=by
 go_enter Tryz.func234,Tryz.ntmps234;go_wp2;go_loopw [12] (λi wr=>∃q:Nat,q<=m/\i = .int .i64 q/\Hid (∀i,k<=i->i<k+q->(M i).getD c 0=0)/\wr=w) (λi _=>m-(intOf i).toNat)
 case atStart=>exact ⟨0,Nat.zero_le _,rfl,λi h1 h2=>by omega,rfl⟩
 case round=>
  obtain ⟨q,hq,rfl,HZ,hw⟩:=hrel;have hw:=hw.symm;subst hw;obtain ⟨wo,aq⟩:∃wo,wo=w:=⟨_,rfl⟩;subst aq;by_cases hlt:q<m
  ·have ar:=ha (by omega);subst ar;have aa:k+q<k+m:=by omega
   have ai:=h.cell aa;have af:=h.num aa hc;have au:=h.nbd aa c;obtain ⟨x,HX⟩:=nmd ((M (k+q)).getD c 0);rw [HX.out] at af au;have ag:=h.row _ aa;have av:=h.wid _ aa;obtain ⟨g,HG⟩:=nmd (G (k+q));rw [HG.out] at ai af ag;by_cases hx:nm x=0
   ·have aw:Hid (∀i,k<=i->i<k+(q+1)->(M i).getD c 0=0):=λi h1 h2=>by
     by_cases e:i=k+q
     ·rw [e,HX.out,<- hx,nm_small (by omega) (by omega)]
     ·exact HZ.out i h1 (by omega)
    go_wp2_with (first | (go_at_call 186;refine (fInv0 _ _ (by omega) (by omega) hx).mono ?_;rintro e w' ⟨rfl,hw⟩;have hw:=hw.symm;subst hw) | fail);go_roundw
    case rel=>exact ⟨q+1,by omega,by go_num,aw,by trivial⟩
    case measure=>simp [intOf];omega
   ·have ao:=iv_bd x;obtain ⟨u,HU⟩:=nmd (iv x);go_wp2_with (first | (go_at_call 186;refine (fInv1 _ _ (by omega) (by omega) hx).mono ?_;rintro e w' ⟨rfl,hw⟩;have hw:=hw.symm;subst hw;rw [HU.out]) | fail);rw [HU.out] at ao;go_loopw [29] (λi wr=>∃(j:Nat) (A:List Int),j<=W/\i = .int .i64 j/\Hid (Sc (M (k+q)) u j A)/\Blk wr g A/\wo.grownBy wr (some g)) (λi _=>W-(intOf i).toNat)
    case atStart=>exact ⟨0,_,Nat.zero_le _,rfl,sc_start _ _ (h.bd _ aa),ag,World.grownBy.refl _ _⟩
    case round=>
     obtain ⟨j,A,hj,rfl,HS,ab,ae⟩:=hrel;have ax:A.length=W:=by rw [HS.out.len];exact av
     by_cases hjw:j<W
     ·have ah:=ab.cell (i:=j) (by omega);have aD:=ab.frozen j;obtain ⟨y,hy⟩:∃y,y=A.getD j 0:=⟨_,rfl⟩;have HY:Hid (y=(M (k+q)).getD j 0):=by rw [hy,HS.out.at_ _ (by omega),if_neg (by omega)];exact rfl
      have aE:0<=y/\y<=2147483646:=by rw [hy];exact getD_bd' HS.out.bd _
      rw [<- hy] at ah;clear hy;have ay:Hid (Sc (M (k+q)) u (j+1) (A.set j (nm (y*u)))):=sc_step HS.out (by omega) (by rw [HY.out]);have az:=ab.set j (nm (y*u));have aA:=grown_trans ae (grown_set wr g j (.int .u64 (nm (y*u))));go_wp2_with (first | (go_at_call 149;refine (fMul _ _ _ (by omega) (by omega) (by omega) (by omega)).mono ?_;rintro e w' ⟨rfl,hw⟩;have hw:=hw.symm;subst hw) | fail);go_roundw
      case rel=>exact ⟨j+1,_,by omega,by go_num,ay,az,aA⟩
      case measure=>simp [intOf];omega
     ·have ap:j=W:=by omega
      subst ap;have ad:Mx wr lo hi gl (k+m) j G (λi=>if i=k+q then A else M i):=h.put aa (by rw [HG.out];exact ae) (by rw [HG.out];exact ab) ax HS.out.bd;have aj:=Fr.grown ae (by rw [<- HG.out];exact (h.rng _ aa).1) (by rw [<- HG.out];exact (h.rng _ aa).2.1);have ak:k<k+m:=by omega
      have aF:0<m:=by omega
      have aG:=ad.cell ak;have al:=ad.cell aa;rw [HG.out] at al;have aH:=ad.frozen k;have aI:=ad.frozen (k+q);have am:=ad.swap ak aa;have an:=aj.trans (fr_set2 wr h.gb.1 h.gb.2 k (k+q) (.slice (some ⟨G (k+q),0,none⟩) j j) (.slice (some ⟨G k,0,none⟩) j j));rw [HG.out] at am an;obtain ⟨v',aJ⟩:=cell?_setCell_some (w:=wr) (p:=⟨gl,k,none⟩) (x:=.slice (some ⟨g,0,none⟩) j j) (q:=⟨gl,k+q,none⟩) (v:=.slice (some ⟨g,0,none⟩) j j) al;have HL:Hid (Led (k+m) j k (k+q) c M (λi=>(λi=>if i=k+q then A else M i) (if i=k then k+q else if i=k+q then k else i))):=λi t hi ht=>by
       show ((if (if i=k then k+q else if i=k+q then k else i)=k+q then A else M (if i=k then k+q else if i=k+q then k else i)):List Int).getD t 0=_;by_cases e1:i=k
       ·rw [if_pos e1,if_pos rfl,if_pos e1,HS.out.at_ t (by omega),if_pos ht,HX.out,HU.out]
       ·by_cases e2:i=k+q
        ·rw [if_neg e1,if_pos e2,if_neg (by omega),if_neg e1,if_pos e2]
        ·rw [if_neg e1,if_neg e2,if_neg e2,if_neg e1,if_neg e2]
      have aB:nm ((M (k+q)).getD c 0)≠0:=by rw [HX.out];exact hx
      clear HZ HS ab ae ag h ad aj af ai;go_wp2;go_region
      all_goals
       go_wp2;go_ret;exact .inr ⟨k+q,_,_,rfl,by omega,aa,aB,am.drew,HL.out,an.drew⟩
  ·have aC:q=m:=by omega
   subst aC;go_wp2;go_ret;exact .inl ⟨rfl,rfl,HZ.out⟩
theorem infoI:(Tryz.prog.info? 3).map (λi=>(i.zero,i.size,i.bytes))=some (some (.int .i64 0),1,8):=by kernel_rfl
def mtv (M:Nat->List Int) (i j:Nat):Int:=(M i).getD j 0
def El (n W k c i:Nat) (M N:Nat->List Int):Prop:=
 ∀r j,r<n->j<W->(N r).getD j 0=if r<i/\r≠k then nm ((M r).getD j 0-(M r).getD c 0*(M k).getD j 0) else (M r).getD j 0
theorem el_start (n W k c:Nat) (M:Nat->List Int):El n W k c 0 M M:=λr j _ _=>by rw [if_neg (by omega)]
theorem el_skip {n W k c M N} (h:El n W k c k M N):El n W k c (k+1) M N:=λr j hr hj=>by
 rw [h r j hr hj]
 by_cases e:r<k
 ·rw [if_pos ⟨e,by omega⟩,if_pos ⟨by omega,by omega⟩]
 ·rw [if_neg (by omega),if_neg (by omega)]
theorem el_step {n W k c i M N A} (h:El n W k c i M N) (hi:i<n) (hk:k<n) (hne:i≠k) (hc:c<W) (hl:(N i).length=W) (hT:Tk (N i) (N k) ((N i).getD c 0) W A):El n W k c (i+1) M (λr=>if r=i then A else N r):=λr j hr hj=>by
 show ((if r=i then A else N r):List Int).getD j 0=_
 by_cases e:r=i
 ·subst e
  rw [if_pos rfl,if_pos ⟨by omega,hne⟩,hT.at_ j (by omega),if_pos hj,h r j hr hj,h k j hk hj,h r c hr hc,if_neg (by omega),if_neg (by omega),if_neg (by omega)]
 ·rw [if_neg e,h r j hr hj]
  by_cases e2:r<i/\r≠k
  ·rw [if_pos e2,if_pos ⟨by omega,e2.2⟩]
  ·rw [if_neg e2,if_neg (by omega)]
theorem cReduce (n) (v:Nat) (lo hi gl G M M0 w) (h:Mx w lo hi gl n (v+1) G M) (hr:RrI M0 (mtv M) n (v+1) 0 []) (hv:v<=100) (hn:n<=1000):
  Calls Tryz.prog 225 #[.slice (some ⟨gl,0,none⟩) n n,.int .i64 v] w λe w'=>∃u L G' N,e = .returned u/\w'.ownsRow w.heap.size 3 1 u L.length (ins L)/\Mx w' lo hi gl n (v+1) G' N/\RrI M0 (mtv N) n (v+1) v L/\Fr lo hi w w':=by
 have aw:=h.hw;have aH:=h.gb;go_enter Tryz.func225,Tryz.ntmps225;go_wp2;go_loopw [5,10] (λu i wr=>∃(c:Nat) (L:List Nat) (G':Nat->Nat) (N:Nat->List Int),c<=v/\i = .int .i64 c/\wr.ownsRow w.heap.size 3 1 u L.length (ins L)/\Mx wr lo hi gl n (v+1) G' N/\Hid (RrI M0 (mtv N) n (v+1) c L)/\Fr lo hi w wr) (λ_ i _=>v-(intOf i).toNat)
 case atStart=>exact ⟨0,[],G,M,Nat.zero_le _,rfl,World.ownsRow_nil _ _ _ _,h,hr,Fr.refl _ _ _⟩
 case round=>
  obtain ⟨c,L,G1,N,aX,rfl,ab,hN,HR,ai⟩:=hrel;obtain ⟨wo,aI⟩:∃wo,wo=wr:=⟨_,rfl⟩;subst aI;obtain ⟨k,HK⟩:=nmd L.length;have aY:k<=n:=by rw [<- HK.out];exact HR.out.kr
  rw [HK.out] at ab;obtain ⟨a5,c5,rfl,aZ⟩:=own_slice ab;by_cases hlt:c<v
  ·have hX:Mx wo lo hi gl (k+(n-k)) (v+1) G1 N:=by rw [show k+(n-k)=n by omega];exact hN
   by_cases hkn2:k<n
   ·have a0:¬ n=k:=by omega
    go_wp2_with (first | (go_at_call 234;refine (cLead _ k (n-k) c (v+1) lo hi gl G1 N wo hX (λ_=>rfl) (by omega) (by omega) (by omega)).mono ?_;rintro e w1 (⟨rfl,hw,hz⟩ | ⟨p,G2,N2,rfl,ax,aq,ar,ad,af,ao⟩)) | fail)
    ·have hw:=hw.symm;subst hw;have aj:Hid (RrI M0 (mtv N) n (v+1) (c+1) L):=rr_skip HR.out (by omega) λi h1 h2=>by
      rw [HK.out] at h1;show nm ((N i).getD c 0)=0;rw [hz i h1 (by omega)];rfl
     go_wp2;go_roundw
     case rel=>exact ⟨c+1,L,G1,N,by omega,by go_num,by rw [HK.out];exact ab,hN,aj,ai⟩
     case measure=>simp [intOf];omega
    ·rw [show k+(n-k)=n by omega] at ad af aq;have ag:=ao.own aw ab;have al:=ai.trans ao;have aV:=ad.hw;clear ab ao ai hX hN;go_wp2;go_loopw [23] (λi wr=>∃(q:Nat) (N3:Nat->List Int),q<=n/\i = .int .i64 q/\Mx wr lo hi gl n (v+1) G2 N3/\Hid (El n (v+1) k c q N2 N3)/\Fr lo hi w1 wr) (λi _=>n-(intOf i).toNat)
     case atStart=>exact ⟨0,N2,Nat.zero_le _,rfl,ad,el_start _ _ _ _ _,Fr.refl _ _ _⟩
     case round=>
      obtain ⟨q,N3,hq,rfl,aa,HE,ae⟩:=hrel;by_cases hqn:q<n
      ·by_cases hqk:q=k
       ·subst hqk;go_wp2;go_roundw
        case rel=>exact ⟨q+1,N3,by omega,by go_num,aa,el_skip HE.out,ae⟩
        case measure=>simp [intOf];omega
       ·have aJ:=aa.cell hqn;have aK:=aa.cell hkn2;have ay:=aa.num hqn (show c<v+1 by omega);have aL:=aa.nbd hqn c;have az:=aa.rd hkn2 (by unfold maxLen;omega);have aA:=aa.row q hqn;have au:=aa.wid q hqn;have aM:=aa.bd q hqn;have am:G2 k≠G2 q:=λe=>hqk (aa.inj _ _ hkn2 hqn e).symm;obtain ⟨x,HX⟩:=nmd ((N3 q).getD c 0);rw [HX.out] at ay aL;have aW:((q:Int)==(k:Int))=false:=by rw [beq_eq_false_iff_ne];omega
        have an:∀(w4:World) (A:List Int),Tk (N3 q) (N3 k) x (v+1) A->Blk w4 (G2 q) A->wr.drew.grownBy w4 (some (G2 q))->∃N4,Mx w4 lo hi gl n (v+1) G2 N4/\Hid (El n (v+1) k c (q+1) N2 N4)/\Fr lo hi w1 w4:=λw4 A hT hA ak=>
         ⟨_,aa.drew.put hqn ak hA (by rw [hT.len];exact au) hT.bd,el_step HE.out hqn hkn2 hqk (by omega) au (by rw [HX.out];exact hT),ae.drew.trans (Fr.grown ak (aa.rng q hqn).1 (aa.rng q hqn).2.1)⟩
        have aN:q+1<=n:=by omega
        obtain ⟨ga,aB⟩:∃ga,ga=G2 q:=⟨_,rfl⟩;obtain ⟨gb,aC⟩:∃gb,gb=G2 k:=⟨_,rfl⟩;rw [<- aB] at aJ ay aA am an;rw [<- aC] at aK az am;clear aa HE ae af ar HR al ag ad aB aC HX h hr aH hqn;go_wp2;go_region_with (first | (go_at_call 235;refine (cTake ga (v+1) (N3 q) (some ⟨gb,0,none⟩) (v+1) (N3 k) x _ (by exact aA) aM az.drew (by intro y hy;obtain rfl:=Option.some.inj hy;exact am) au (by omega) (by omega) (by omega)).mono ?_;rintro e w4 ⟨A,rfl,hT,hA,ak⟩))
        all_goals
         obtain ⟨N4,aO,aP,aQ⟩:=an _ _ hT hA ak;clear an ak hA hT;go_wp2;go_roundw
         case rel=>exact ⟨q+1,N4,aN,by go_num,aO,aP,aQ⟩
         case measure=>simp [intOf];omega
      ·have aE:q=n:=by omega
       subst aE;have ah:=ae.own aw ag;have av:=al.trans ae;have aj:Hid (RrI M0 (mtv N3) q (v+1) (c+1) (L ++ [c])):=by
        have h1:∀i j,i<q->j<v+1->nm (mtv N2 i j)=nm (if i=L.length then mtv N p j*iv (mtv N p c) else if i=p then mtv N L.length j else mtv N i j):=λi j hi hj=>by
         show nm ((N2 i).getD j 0)=_;rw [af i j hi hj,HK.out];split
         ·exact nm_nm _
         ·split <;> rfl
        have h2:∀i j,i<q->j<v+1->nm (mtv N3 i j)=nm (if i=L.length then mtv N2 L.length j else mtv N2 i j-mtv N2 i c*mtv N2 L.length j):=λi j hi hj=>by
         show nm ((N3 i).getD j 0)=_;rw [HE.out i j hi hj,HK.out];by_cases e:i=k
         ·rw [if_neg (by omega),if_pos e,e];rfl
         ·rw [if_pos ⟨hi,e⟩,if_neg e];exact nm_nm _
        exact rr_lead HR.out (by omega) (by rw [HK.out];exact ax) aq ar h1 h2
       have a1:=aa.hw;have a2:=av.size;clear HE ag ae al ad;go_wp2_with (first | (at_builtin;refine wpList_appV Tryz.underlying63 infoI rfl (by decide) wr rfl _ _ rfl w.heap.size (.slice a5 k c5) k (ins L) (by rfl) ah (.int .i64 c) rfl (by rfl) (by omega) (by omega) ?_;intro v' w5 ap aD _) | fail);rw [ins_snoc] at ap;have aF:=av.own_grown aD λk hk=>(ah.lt k hk).1;have aR:Below hi wr w5:=(Below.refl _ _).grown aD (by omega) (λk hk=>by have:=(ah.lt k hk).1;omega);have aS:=aa.below aR;have aT:(L ++ [c]).length=k+1:=by rw [List.length_append,HK.out];rfl
       go_wp2;go_roundw
       case rel=>exact ⟨c+1,L ++ [c],G2,N3,by omega,by go_num,by rw [aT];exact ap,aS,aj,aF⟩
       case measure=>simp [intOf];omega
   ·have aU:k=n:=by omega
    subst aU;go_wp2_with (first | (go_at_call 234;refine (cLead _ k 0 c (v+1) lo hi gl G1 N wo hN (λh=>absurd h (by omega)) (by omega) (by omega) (by omega)).mono ?_;rintro e w1 (⟨rfl,hw,hz⟩ | ⟨p,G2,N2,rfl,ax,aq,ar,ad,af,ao⟩)) | fail)
    ·have hw:=hw.symm;subst hw;have aj:Hid (RrI M0 (mtv N) k (v+1) (c+1) L):=rr_skip HR.out (by omega) λi h1 h2=>by
      rw [HK.out] at h1;omega
     go_wp2;go_roundw
     case rel=>exact ⟨c+1,L,G1,N,by omega,by go_num,by rw [HK.out];exact ab,hN,aj,ai⟩
     case measure=>simp [intOf];omega
    ·exfalso;omega
  ·have aG:c=v:=by omega
   subst aG;go_wp2;go_ret;exact ⟨_,L,G1,N,rfl,by rw [HK.out];exact ab,hN,HR.out,ai⟩
end
end Go.Proofs.YtljlioglpaogdacGreatDoor

/- DdJ DdT DdS -/
import Derived.Test.YtljlioglpaogdacGreatDoorShLd
import Derived.Test.YtljlioglpaogdacGreatDoorToTexM
namespace Go.Proofs.YtljlioglpaogdacGreatDoor
set_option linter.unusedVariables false
set_option maxRecDepth 100000
set_option maxHeartbeats 8000000
section
open Crm Go.RowKit Go.Shelf
theorem ba_data {x y:ByteArray} (h:x.data.toList=y.data.toList):x=y:=by
 apply ByteArray.ext;exact Array.ext' h
theorem jnw_tail (x0:ByteArray) (r:List ByteArray):∀k,k<=r.length->(jnw (x0 :: r) (k+1)).data.toList=x0.data.toList++Lib.joinTail [32] ((r.map (·.data.toList)).take k)
 | 0,_=>by
  rw [jnw,if_pos rfl]
  have e:mt++tx (x0 :: r) 0=x0:=by
   apply ba_data;rw [ByteArray.data_append];simp [mt,tx]
  rw [e];simp [Lib.joinTail]
 | k+1,hk=>by
  have ih:=jnw_tail x0 r k (by omega);have hy:r[k]? = some (r[k]'(by omega)):=List.getElem?_eq_getElem (by omega);have ht:tx (x0 :: r) (k+1)=r[k]'(by omega):=by
   unfold tx;rw [List.getD_eq_getElem?_getD,List.getElem?_cons_succ,hy];rfl
  rw [jnw,if_neg (by omega),Lib.joinTail_take_succ [32] (r.map (·.data.toList)) k (r[k]'(by omega)).data.toList (by rw [List.getElem?_map,hy];rfl),ByteArray.data_append,ByteArray.data_append,Array.toList_append,Array.toList_append,ih,ht,List.append_assoc,List.append_assoc,List.append_assoc]
  rfl
theorem jnw_join (L:List ByteArray):(⟨(Lib.join (L.map (·.data.toList)) [32]).toArray⟩:ByteArray)=jnw L L.length:=by
 cases L with
 | nil=>rfl
 | cons x0 r=>
  apply ba_data;rw [List.length_cons,jnw_tail x0 r r.length (Nat.le_refl _),List.map_cons,Lib.join_cons,List.take_of_length_le (by simp)]
theorem sJoin (a n c L w) (h:RdT w a n c L) (hn:n<=1000000) (hz:(jnw L n).size<=100000000000):
  Calls Tryz.prog 42 #[.slice a n c,.string ⟨#[32]⟩] w λe w'=>e = .returned (.string (jnw L n))/\Below w.heap.size w w':=by
 by_cases h0:n=0
 ·subst h0;refine (show Calls Tryz.prog 42 #[.slice a 0 c,.string ⟨#[32]⟩] w _ from Any.strings_Join_none Tryz.lays156 Tryz.Builder_Extra_156 a c ⟨#[32]⟩ w).mono ?_;rintro e w' ⟨rfl,rfl⟩;exact ⟨rfl,Below.refl _ _⟩
 ·obtain ⟨b,o,x,rfl,hb,_,_,_⟩:=h.one (show 0<n by omega);have hl:=h.len;subst hl;have hJ:=jnw_join L;have hc:∀(j:Nat) x,L[j]? = some x->w.cell? ⟨b,o+j,none⟩=some (.string x):=λj x hx=>by
   have hj:j<L.length:=(List.getElem?_eq_some_iff.1 hx).1;have:=h.cell _ rfl j hj;rw [Addr.add_lit] at this;rw [this];unfold tx;rw [List.getD_eq_getElem?_getD,hx];rfl
  have aa:(Lib.join (L.map (·.data.toList)) [32]).length<=140737488355328:=by
   have e:(Lib.join (L.map (·.data.toList)) [32]).length=(jnw L L.length).size:=by
    rw [<- hJ];simp [ByteArray.size]
   omega
  refine (show Calls Tryz.prog 42 #[.slice (some ⟨b,o,none⟩) L.length c,.string ⟨#[32]⟩] w _ from Any.strings_Join Tryz.lays156 Tryz.Builder_Extra_156 b o c L ⟨#[32]⟩ w hc hb (by omega) h.cap aa).mono ?_;rintro e w' ⟨rfl,hb⟩;exact ⟨by rw [<- hJ],hb⟩
def BlkW (w:World) (g:Nat) (L:List ByteArray):Prop:=w.heap[g]? = some (.cells (L.map Value.string).toArray 9 (0,0))
theorem BlkW.lt {w g L} (h:BlkW w g L):g<w.heap.size:=(Array.getElem?_eq_some_iff.1 h).1
theorem BlkW.cell {w g L} (h:BlkW w g L) {i:Nat} (hi:i<L.length):w.cell? ⟨g,i,none⟩=some (.string (tx L i)):=by
 rw [cell_of_row w g i _ _ (0,0) h];unfold tx;simp [List.getElem?_eq_getElem hi]
theorem BlkW.frozen {w g L} (h:BlkW w g L) (i:Nat):w.frozen? ⟨g,i,none⟩=false:=frozen_of_row w g i _ _ h
theorem BlkW.set {w g L} (h:BlkW w g L) (i:Nat) (v:ByteArray):BlkW (w.setCell ⟨g,i,none⟩ (.string v)) g (L.set i v):=by
 have:=heap_setCell_same w g i _ _ (.string v) h;unfold BlkW;rw [this];simp [List.map_set]
theorem BlkW.below {w w' g L} (h:BlkW w g L) (hb:Below w.heap.size w w'):BlkW w' g L:=by
 unfold BlkW;rw [hb.block g h.lt];exact h
theorem BlkW.rd {w g L} (h:BlkW w g L) {n:Nat} (hl:L.length=n) (hn:n<=1000000) (hb:∀i,i<n->(tx L i).size<=9223372036854775807):RdT w (some ⟨g,0,none⟩) n n L:=by
 refine ⟨hl,Nat.le_refl _,by unfold maxLen;omega,by simp,hb,λx hx i hi=>?_⟩
 obtain rfl:=Option.some.inj hx;rw [Addr.add_lit,Nat.zero_add];exact h.cell (by omega)
theorem BlkW.made {w:World} {base g n:Nat} (h:w.ownsRow base 9 1 (.slice (some ⟨g,0,none⟩) n n) n (madeCells (Value.string ⟨#[]⟩).cells (n*1)).toList):BlkW w g (List.replicate n ⟨#[]⟩):=by
 rcases h.2 with ⟨h',_⟩ | ⟨g',ad,ab,h',_,hg,_,_,hs,aa⟩
 ·simp at h'
 ·simp only [Value.slice.injEq,Option.some.injEq,Addr.mk.injEq,and_true,true_and] at h';obtain ⟨rfl,rfl⟩:=h';have e:(Value.string ⟨#[]⟩).cells = #[Value.string ⟨#[]⟩]:=rfl;rw [e,Nat.mul_one,toList_madeCells_one] at aa;unfold BlkW;rw [hg];congr 2;rw [List.take_of_length_le (by simp at hs;simp [hs])] at aa;have:ab=(List.replicate n (Value.string ⟨#[]⟩)).toArray:=by rw [<- aa]
  rw [this];simp
def filt (f:Nat->ByteArray) (n k:Nat):List ByteArray:=(List.range n).map λi=>if i<k then f i else ⟨#[]⟩
theorem filt_len (f:Nat->ByteArray) (n k:Nat):(filt f n k).length=n:=by simp [filt]
theorem filt_zero (f:Nat->ByteArray) (n:Nat):List.replicate n ⟨#[]⟩=filt f n 0:=by
 apply List.ext_getElem (by simp [filt]);intro i h1 h2;simp [filt]
theorem filt_set {f:Nat->ByteArray} {n k:Nat} {v:ByteArray} (hv:v=f k):(filt f n k).set k v=filt f n (k+1):=by
 apply List.ext_getElem (by simp [filt]);intro i h1 h2;rw [List.getElem_set];by_cases e:k=i
 ·subst e;rw [if_pos rfl,hv];simp [filt]
 ·rw [if_neg e];simp only [filt,List.getElem_map,List.getElem_range];by_cases h:i<k
  ·rw [if_pos h,if_pos (by omega)]
  ·rw [if_neg h,if_neg (by omega)]
theorem filt_tx (f:Nat->ByteArray) {n i:Nat} (h:i<n):tx (filt f n n) i=f i:=by
 unfold tx;rw [List.getD_eq_getElem?_getD,List.getElem?_eq_getElem (by rw [filt_len];exact h)];simp [filt,h]
theorem sdn_jnw (l:List Int) (n:Nat):∀k,k<=n->sdn l k=jnw (filt (λi=>itb (l.getD i 0)) n n) k
 | 0,_=>rfl
 | k+1,h=>by rw [sdn,jnw,sdn_jnw l n k (by omega),filt_tx _ (show k<n by omega)]
end
section
open Crm Go.RowKit
theorem dTell (a n c l) (r:Int) (w) (h:Rd w a n c l) (hn:n<=10000) (h0: -9223372036854775808<=r) (h1:r<=9223372036854775807) (hT:Tabs w):
  Calls Tryz.prog 47 #[.slice a n c,.int .i64 r] w λe w'=>e = .returned (.string (sad l r))/\Below w.heap.size w w':=by
 by_cases hr:r=0
 ·subst hr;obtain ⟨i0,hi,ap,aq,ar⟩:=info_parts infoStr;have am:=h.len;have az:=h.cap;have an:=h.max;unfold maxLen at an;have HE:Hid (sad l 0=sdn l n):=by unfold Hid sad;rw [if_pos rfl,am]
  have HZ:Hid ((sdn l n).size<=22*n):=sdn_size h.bd n;obtain ⟨f,HF⟩:∃f:Nat->ByteArray,Hid (f=λi=>itb (l.getD i 0)):=⟨_,rfl⟩;have HJ:Hid (sdn l n=jnw (filt f n n) n):=by unfold Hid;rw [HF.out];exact sdn_jnw l n n (Nat.le_refl _)
  go_enter Tryz.func47,Tryz.ntmps47;go_wp2_with (at_make;refine wpList_make_full _ rfl _ _ 24 rfl w.heap.size 9 i0 (.string ⟨#[]⟩) 1 Tryz.underlying24 hi ap aq .i64 .i64 _ _ n rfl rfl (by omega) (by omega) (by rw [ar];omega) (by unfold maxLen;omega) (Nat.le_refl _) ?_;intro w2 ah af);have ai:BlkW w2 w.heap.size (filt f n 0):=by rw [<- filt_zero];exact BlkW.made ah
  have aj:Below w.heap.size w w2:=(Below.refl _ _).grown af (Nat.le_refl _) (by simp);clear ah af;go_loopw [17] (λi wr=>∃k:Nat,k<=n/\i = .int .i64 k/\BlkW wr w.heap.size (filt f n k)/\Below w.heap.size w wr) (λi _=>n-(intOf i).toNat)
  case atStart=>exact ⟨0,Nat.zero_le _,rfl,ai,aj⟩
  case round=>
   clear ai aj;obtain ⟨k,hk,rfl,hB,aa⟩:=hrel;have ak:=aa.size;by_cases hlt:k<n
   ·obtain ⟨b,o,x,rfl,au,HX,av,aw,hc⟩:=(h.below aa).one hlt;have aA:(k:Int)<(n:Int):=by omega
    have aC:(0:Int)<=(k:Int):=by omega
    obtain ⟨u,HU⟩:=nmd (itb x);have HV:Hid (u=f k):=by unfold Hid;rw [HF.out,<- HU.out];show _=itb (l.getD k 0);rw [HX.out]
    have al:=hT.below aa;go_wp2_with fail;refine (sFormatUint x _ av aw al).mono ?_;rintro e w5 ⟨rfl,ab⟩;rw [HU.out];have ad:=hB.below ab;have ag:=aa.trans (ab.mono ak);have ay:=ad.cell (i:=k) (by rw [filt_len];exact hlt);have aD:=ad.frozen k;have aB:=ad.lt;have ae:=ad.set k u;rw [filt_set HV.out] at ae;have ao:=hid ae;have ax:Hid (Below w.heap.size w (w5.setCell ⟨w.heap.size,k,none⟩ (.string u))):=ag.setCell (Nat.le_refl _) _;clear ab al aa hc au hB ad ae ag;go_wp2;go_roundw
    case rel=>exact ⟨k+1,by omega,by go_num,ao.out,ax.out⟩
    case measure=>simp [intOf];omega
   ·obtain rfl:k=n:=by omega
    have aE:¬ ((k:Int)<(k:Int)):=by omega
    have hr:=hB.rd (filt_len f k k) (by omega) (λi hi=>by
     rw [filt_tx f hi,HF.out];have hd:=getD_bd h.bd i;have:=itb_u64 hd.1 hd.2;show (itb (l.getD i 0)).size<=_;omega)
    have hz:=HZ.out;rw [HJ.out] at hz;go_wp2_with fail;refine (sJoin _ _ _ _ _ hr (by omega) (by omega)).mono ?_;rintro e w5 ⟨rfl,ab⟩;have ag:=aa.trans (ab.mono ak);rw [<- HJ.out,<- HE.out];obtain ⟨u,HU⟩:=nmd (sad l 0);rw [HU.out];clear hr hz hB aa ab;go_wp2;go_ret;rw [HU.out];exact ⟨rfl,ag⟩
 ·have HE:Hid (sad l r=erB r):=if_neg hr;have aF:(r != 0)=true:=by rw [bne_iff_ne];exact hr
  clear hr;go_enter Tryz.func47,Tryz.ntmps47;go_wp2_with fail;refine (dFail r _ h0 h1 hT).mono ?_;rintro e w1 ⟨rfl,hb⟩;go_wp2;go_ret;rw [HE.out];exact ⟨rfl,hb⟩
theorem dTellH (x r:Int) (w) (hx0:0<=x) (hx1:x<=9223372036854775807) (h0: -9223372036854775808<=r) (h1:r<=9223372036854775807) (hT:Tabs w):
  Calls Tryz.prog 49 #[.int .i64 x,.int .i64 r] w λe w'=>e = .returned (.string (sad [x] r))/\Below w.heap.size w w':=by
 have aa:Below w.heap.size w (w.alloc (.cells #[.int .u64 x] 70)):=bal _ _;have r1:Rd (w.alloc (.cells #[.int .u64 x] 70)) (some ⟨w.heap.size,0,none⟩) 1 1 [x]:=(Blk.lit1 w x).whole 1 rfl (by unfold maxLen;omega) (λu hu=>by rw [List.mem_singleton.1 hu];omega);have ab:=hT.below aa;go_enter Tryz.func49,Tryz.ntmps49;go_wp2_with fail;generalize w.alloc (.cells #[.int .u64 x] 70)=wA at *;refine (dTell _ _ _ [x] r _ r1 (by omega) h0 h1 ab).mono ?_;rintro e w1 ⟨rfl,hb⟩;have ad:=btr aa hb;go_wp2;go_ret;exact ⟨rfl,ad⟩
theorem dTellN (x r:Int) (w) (hx0:0<=x) (hx1:x<=18446744073709551615) (h0: -9223372036854775808<=r) (h1:r<=9223372036854775807) (hT:Tabs w):
  Calls Tryz.prog 61 #[.int .u64 x,.int .i64 r] w λe w'=>e = .returned (.string (sad [x] r))/\Below w.heap.size w w':=by
 have aa:Below w.heap.size w (w.alloc (.cells #[.int .u64 x] 70)):=bal _ _;have r1:Rd (w.alloc (.cells #[.int .u64 x] 70)) (some ⟨w.heap.size,0,none⟩) 1 1 [x]:=(Blk.lit1 w x).whole 1 rfl (by unfold maxLen;omega) (λu hu=>by rw [List.mem_singleton.1 hu];omega);have ab:=hT.below aa;go_enter Tryz.func61,Tryz.ntmps61;go_wp2_with fail;generalize w.alloc (.cells #[.int .u64 x] 70)=wA at *;refine (dTell _ _ _ [x] r _ r1 (by omega) h0 h1 ab).mono ?_;rintro e w1 ⟨rfl,hb⟩;have ad:=btr aa hb;go_wp2;go_ret;exact ⟨rfl,ad⟩
end
section
open Crm Go.RowKit Go.Shelf
theorem lns_cnt (s:ByteArray):(lns s).length=s.data.toList.count 10+1:=count_pcs 10 s
theorem sSplitL (s:ByteArray) (w:World) (hs:s.size<=100000):
  Calls Tryz.prog 15 #[.string s,.string ⟨#[10]⟩] w λe w'=>e = .returned (.slice (some ⟨w.heap.size,0,none⟩) (lns s).length (lns s).length)/\w'=w.alloc (.cells ((lns s).map Value.string).toArray 9):=by
 have hl:=lns_cnt s;have aa:Lib.countB s ⟨#[10]⟩=s.data.toList.count 10:=Lib.count_one 10 _;have ab:s.data.toList.count 10<=s.size:=by
  have:=List.count_le_length (a:=(10:UInt8)) (l:=s.data.toList);rwa [Array.length_toList] at this
 have hC:Calls Tryz.prog 92 #[.string s,.string ⟨#[10]⟩] w λe w'=>e = .returned (.int .i64 (Lib.countB s ⟨#[10]⟩))/\w'=w:=by
  rw [aa];exact Any.strings_Count_one Tryz.lays138 s 10 w
 have hI:∀(x:ByteArray) (c:Array Value),x.size<=s.size->Calls Tryz.prog 93 #[.string x,.string ⟨#[10]⟩] (w.alloc (.cells c 9)) λe w'=>e = .returned (.int .i64 (Lib.indexB x ⟨#[10]⟩))/\w'=w.alloc (.cells c 9):=λx c _=>by
  have e:Lib.indexB x ⟨#[10]⟩=Lib.indexByte x.data.toList 10:=Lib.index_one _ _;rw [e];exact Any.strings_Index_one Tryz.lays143 x 10 _
 have hG:=Any.strings_genSplit_core Tryz.lays221 infoS9 s ⟨#[10]⟩ 0 (-1) (s.data.toList.count 10+1) w (by omega) (by decide) (Nat.zero_le _) hI hC (by decide) (by decide) (by rw [if_pos (by decide),aa];omega);rw [Nat.add_sub_cancel,split_pcs 10 _ s rfl] at hG;have e2:Lib.cellsOf (pcs s (((10:UInt8).toNat:Nat):Int) s.size) (s.data.toList.count 10+1)=((lns s).map Value.string).toArray:=by
  rw [<- hl];exact Lib.cellsOf_full _
 rw [e2] at hG;have ad:Calls Tryz.prog 38 #[.string s,.string ⟨#[10]⟩,.int .i64 0,.int .i64 (-1)] w λe w'=>e = .returned (.slice (some ⟨w.heap.size,0,none⟩) (lns s).length (lns s).length)/\w'=w.alloc (.cells ((lns s).map Value.string).toArray 9):=by
  refine hG.mono ?_;rintro e w' ⟨rfl,rfl⟩;exact ⟨by rw [hl];show Ending.returned (Value.slice _ (lns s).length _)=_;rw [hl],rfl⟩
 clear hG hI hC e2 aa ab hl;go_enter Tryz.func15,Tryz.ntmps15;go_wp2_with (go_at_call 38;refine ad.mono ?_;rintro e w' ⟨rfl,hw⟩;rw [hw]);go_ret;exact ⟨rfl,rfl⟩
def Lnf (s : ByteArray) (w : World) (e : Ending) (w' : World) : Prop :=
  (((65536 < s.size \/ 200 < (tln s).length) /\ e = .returned (.tuple #[.slice none 0 0, .int .i64 2])) \/
   (¬ (65536 < s.size \/ 200 < (tln s).length) /\ ∃ a c, e = .returned (.tuple #[.slice a (tln s).length c, .int .i64 0]) /\ RdT w' a (tln s).length c (tln s))) /\ Below w.heap.size w w'
theorem dLines (s:ByteArray) (w:World) (hs:s.size<=9223372036854775807):
  Calls Tryz.prog 6 #[.string s] w (Lnf s w):=by
 by_cases h65:65536<s.size
 ·have ak:(65536:Int)<(s.size:Int):=by omega
  have HD:Hid (65536<s.size\/200<(tln s).length):=.inl h65;go_enter Tryz.func6,Tryz.ntmps6;go_wp2;go_ret2;exact ⟨.inl ⟨HD.out,rfl⟩,Below.refl _ _⟩
 have ak:¬ (65536:Int)<(s.size:Int):=by omega
 have ab:=lns_len s;have ad:=pcs_len s 10 s.size;have ai:(lns s).length<=70000:=by have:(lns s).length<=s.size+1:=ad.2;omega
 have hr:=rdT_alloc w (lns s) (by omega) (λx hx=>by have:=lns_last s x hx;omega);have ae:Below w.heap.size w (w.alloc (.cells ((lns s).map Value.string).toArray 9)):=bal _ _;go_enter Tryz.func6,Tryz.ntmps6;go_wp2_with fail;refine (sSplitL s w (by omega)).mono ?_;rintro e w1 ⟨rfl,aj⟩;rw [<- aj] at hr ae;clear aj;rw [ab] at hr ai ⊢;obtain ⟨m,HM⟩:=nmd (lnn s);rw [HM.out] at hr ai ⊢;obtain ⟨b,o,x,eb,al,HX,am,af⟩:=hr.one (show m<m+1 by omega);simp only [Option.some.injEq,Addr.mk.injEq,and_true] at eb;obtain ⟨rfl,rfl⟩:=eb;rw [Nat.zero_add] at af;have an:(0:Int)<=(m:Int):=by omega
 obtain ⟨g,HG⟩:=nmd w.heap.size;by_cases hx0:x=mt
 ·have HT:Hid (tln s=(lns s).take m):=by unfold Hid tln;rw [HM.out,HX.out,if_pos hx0]
  have ag:=hr.tke (show m<=m+1 by omega);have aa:Hid ((tln s).length=m):=by unfold Hid;rw [HT.out,List.length_take,ab,HM.out];omega
  rw [HG.out] at hr ag al af ⊢;have hsl:∀W,(Instr.sliceAt 24 (.slice (some ⟨g,0,none⟩) (m+1) (m+1)) none (some (.int .i64 (m:Int))) none).run Tryz.prog W = .ok (.slice (some ⟨g,0,none⟩) m (m+1)) W:=λW=>run_subh Tryz.underlying24 infoStr1 (some ⟨g,0,none⟩) (m+1) (m+1) m (λe=>by simp at e) (by omega) W;subst hx0;unfold mt at af;by_cases h200:200<m
  ·have ah:(200:Int)<(m:Int):=by omega
   have HD:Hid (65536<s.size\/200<(tln s).length):=.inr (by rw [aa.out];exact h200);clear ad ab hr ag;go_wp2;go_ret2;exact ⟨.inl ⟨HD.out,rfl⟩,ae⟩
  ·have ah:¬ (200:Int)<(m:Int):=by omega
   have HD:Hid (¬ (65536<s.size\/200<(tln s).length)):=by unfold Hid;rw [aa.out];omega
   clear ad ab hr;go_wp2;go_ret2;exact ⟨.inr ⟨HD.out,some ⟨g,0,none⟩,m+1,by rw [aa.out];rfl,by rw [aa.out,HT.out];exact ag⟩,ae⟩
 ·have HT:Hid (tln s=lns s):=by unfold Hid tln;rw [HM.out,HX.out,if_neg hx0]
  have aa:Hid ((tln s).length=m+1):=by unfold Hid;rw [HT.out,ab,HM.out]
  have ao:=isE_no (r:=x) (λe=>hx0 (size_zero e));by_cases h200:200<m+1
  ·have ah:(200:Int)<((m:Int)+1):=by omega
   have HD:Hid (65536<s.size\/200<(tln s).length):=.inr (by rw [aa.out];exact h200);clear ad ab hr hx0;go_wp2;go_ret2;exact ⟨.inl ⟨HD.out,rfl⟩,ae⟩
  ·have ah:¬ (200:Int)<((m:Int)+1):=by omega
   have HD:Hid (¬ (65536<s.size\/200<(tln s).length)):=by unfold Hid;rw [aa.out];omega
   clear ad ab hx0;go_wp2;go_ret2;exact ⟨.inr ⟨HD.out,some ⟨w.heap.size,0,none⟩,m+1,by rw [aa.out];rfl,by rw [aa.out,HT.out];exact hr⟩,ae⟩
theorem dEmpty (x w):
  Calls Tryz.prog 17 #[.string x] w λe w'=>e = .returned (.bool (x.size==0))/\∃q,w'=w.drewN q:=by
 by_cases hx:x.size=0
 ·obtain rfl:=size_zero hx;go_enter Tryz.func17,Tryz.ntmps17;go_wp2;go_ret;exact ⟨rfl,0,rfl⟩
 ·have hE:=isE_no hx;have HB:Hid ((x.size==0)=false):=beq_eq_false_iff_ne.2 hx;clear hx;go_enter Tryz.func17,Tryz.ntmps17;go_wp2;go_ret;rw [HB.out];exact ⟨rfl,0,rfl⟩
theorem putRow_below {α:Type} [Inhabited α] {enc:α->Value} {w0:World} {w} {g o q:Nat} {d:Array α} (h:Below w0.heap.size w0 w) (hg:w0.heap.size<=g):Below w0.heap.size w0 (Sort.putRow enc (Sort.ahead w q) g o d):=by
 refine ⟨h.os,h.tape,h.output,by rw [Sort.size_putRow];exact h.size,λi hi=>?_⟩
 rw [<- h.block i hi];show ((Sort.mapBlock (Sort.ahead w q) g (Sort.putCells enc o d)).heap)[i]? = w.heap[i]?;unfold Sort.mapBlock;rw [Array.getElem?_modify,if_neg (by omega)];rfl
theorem wrd_filter (s:ByteArray):((wds s).filter λx=>!(x.size==0))=wrd s:=by
 unfold wrd wds;congr
theorem enters_Empty:∀args w,(callFunc 17 args).run Tryz.prog w = .ok (.enter 17 args) w:=enters_of Tryz.func17 (by kernel_rfl) rfl
theorem zeroStr:∀w,(zeroValue 9).run Tryz.prog w = .ok (.string ⟨#[]⟩) w:=Tryz.zeroValue9
theorem dWords (s:ByteArray) (w) (hs:s.size<=100000):
  Calls Tryz.prog 8 #[.string s] w λe w'=>∃a c,e = .returned (.slice a (wrd s).length c)/\RdT w' a (wrd s).length c (wrd s)/\Below w.heap.size w w':=by
 obtain ⟨W,HW⟩:=nmd (w.alloc (.cells ((wds s).map Value.string).toArray 9));have ab:Below w.heap.size w W:=by rw [<- HW.out];exact (Below.refl _ _).alloc (Nat.le_refl _) _
 have aa:W.heap[w.heap.size]? = some (.cells ((wds s).map Value.string).toArray 9 (0,0)):=by rw [<- HW.out];exact heap_alloc_new w _
 have ad:=pcs_len s 32 s.size;have ag:(wds s).length<=100001:=by have:(wds s).length<=s.size+1:=ad.2;omega
 have hH:Sort.Holds Value.string W w.heap.size 0 (wds s).toArray:=λj hj=>by
  have ah:j<(wds s).length:=by simpa using hj
  refine ⟨?_,frozen_of_row W w.heap.size _ _ _ aa⟩
  rw [cell_of_row W w.heap.size _ _ _ (0,0) aa,Nat.zero_add];simp [getElem!_pos,ah]
 have hD:=AnyE.slices_DeleteFunc Tryz.laysH10 Value.string (λ_=>rfl) (λx=>x.size==0) 17 #[] enters_Empty ⟨#[]⟩ zeroStr w.heap.size 0 (wds s).length (wds s).toArray W (λW' x _=>dEmpty x W') (λn os dk x _=>dEmpty x _) hH (by simp;omega) (by simp);have ae:Calls Tryz.prog 18 #[.slice (some ⟨w.heap.size,0,none⟩) (wds s).length (wds s).length,.func (.func 17) #[] #[]] W λe w'=>e = .returned (.slice (some ⟨w.heap.size,0,none⟩) (wrd s).length (wds s).length)/\RdT w' (some ⟨w.heap.size,0,none⟩) (wrd s).length (wds s).length (wrd s)/\Below w.heap.size w w':=by
  refine (show Calls Tryz.prog 18 #[.slice (some ⟨w.heap.size,0,none⟩) (wds s).length (wds s).length,.func (.func 17) #[] #[]] W _ from hD).mono ?_;rintro e w' ⟨rfl,q,rfl⟩;have hF:((wds s).toArray.toList.filter λx=>!(x.size==0))=wrd s:=wrd_filter s;rw [hF];have ai:(wrd s).length<=(wds s).length:=by rw [<- wrd_filter s];exact List.length_filter_le _ _
  refine ⟨rfl,⟨rfl,ai,by unfold maxLen;omega,by simp,λi hi=>?_,λx hx i hi=>?_⟩,putRow_below ab (Nat.le_refl _)⟩
  ·have:=wrd_size s (tx (wrd s) i) (by unfold tx;rw [List.getD_eq_getElem?_getD,List.getElem?_eq_getElem hi];exact List.getElem_mem _);omega
  ·obtain rfl:=Option.some.inj hx;rw [Addr.add_lit];have hc:=Sort.cell?_putRow Value.string (Sort.ahead W q) w.heap.size 0 (wds s).toArray (((wrd s)++List.replicate ((wds s).toArray.size-(wrd s).length) (⟨#[]⟩:ByteArray)).toArray) hH (by simp;omega) i (by simp;omega);rw [hc];congr 2;rw [getElem!_pos _ i (by simp;omega)];simp only [List.getElem_toArray];rw [List.getElem_append_left hi];unfold tx;rw [List.getD_eq_getElem?_getD,List.getElem?_eq_getElem hi];rfl
 clear hD hH aa ad ag;go_enter Tryz.func8,Tryz.ntmps8;go_wp2_with fail;refine (sSplit s w hs).mono ?_;rintro e w1 ⟨rfl,af⟩;rw [HW.out] at af;subst af;go_wp2_with fail;refine ae.mono ?_;rintro e w2 ⟨rfl,aj,ak⟩;clear ae ab;go_wp2;go_ret;exact ⟨_,_,rfl,aj,ak⟩
end
end Go.Proofs.YtljlioglpaogdacGreatDoor

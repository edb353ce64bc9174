/- FaceC DealC TellsM RDealC ThroughC LagC WeightC RefWtC DivC DivF EnD OpenC -/
import Derived.Test.YtljlioglpaogdacGreatDoorToRedC
import Derived.Test.YtljlioglpaogdacGreatDoorToWireC
namespace Go.Proofs.YtljlioglpaogdacGreatDoor
set_option linter.unusedVariables false
set_option maxRecDepth 100000
set_option maxHeartbeats 8000000
section
open Crm Go.RowKit
theorem Blk.nrm {w g} {n:Nat} {xs:List Int} (h:Blk w g (nz xs)) (hl:xs.length=n) (hn:n<=1000000):Rd w (some ⟨g,0,none⟩) (tl (nz xs) n) n (Crm.nrm xs):=by
 have ht:=tl_le (nz xs) n;have:=h.rd 0 (tl (nz xs) n) n ht (by unfold maxLen;omega) (by rw [nz_len];omega) (nz_bd xs);rw [List.drop_zero] at this;have e:Crm.nrm xs=(nz xs).take (tl (nz xs) n):=by unfold Crm.nrm trm;rw [nz_len,hl]
 rw [e];exact this
theorem cEvalOK (a n c xs) (x:Int) (w) (h:Rd w a n c xs) (hn:n<=40) (hx0:0<=x) (hx1:x<=18446744073709551615):
  Calls Tryz.prog 110 #[.slice a n c,.int .u64 x] w λe w'=>e = .returned (.tuple #[.int .u64 (nm (ev xs x)),.int .i64 0])/\Below w.heap.size w w':=by
 go_enter Tryz.func110,Tryz.ntmps110;go_wp2_with (go_at_call 155;refine (cValue _ _ _ _ _ _ h hx0 hx1).mono ?_;rintro e w1 ⟨rfl,aa⟩);go_ret2;exact ⟨rfl,aa⟩
def fil (f:Nat->Int) (n k:Nat):List Int:=(List.range n).map λi=>if i<k then f i else 0
theorem fil_len (f:Nat->Int) (n k:Nat):(fil f n k).length=n:=by simp [fil]
theorem fil_zero (f:Nat->Int) (n:Nat):List.replicate n 0=fil f n 0:=by
 refine list_ext (by simp [fil]) λt ht=>?_;have:t<n:=by simpa using ht
 simp [fil,this]
theorem fil_set {f:Nat->Int} {n k:Nat} {v:Int} (hv:v=f k):(fil f n k).set k v=fil f n (k+1):=by
 refine list_ext (by simp [fil]) λt ht=>?_;have aa:t<n:=by simpa [fil] using ht
 rw [getD_set,fil_len];by_cases e:k=t
 ·subst e;rw [if_pos ⟨rfl,aa⟩,hv];simp [fil,aa]
 ·rw [if_neg (λh=>e h.1)];have:(t<k+1)=(t<k):=by apply propext;omega
  simp [fil,aa,this]
theorem fil_full (f:Nat->Int) (n:Nat):fil f n n=(List.range n).map f:=by
 refine list_ext (by simp [fil]) λt ht=>?_;have aa:t<n:=by simpa [fil] using ht
 simp [fil,aa]
theorem fil_bd {f:Nat->Int} (hf:∀i,0<=f i/\f i<=2147483646) (n k:Nat):∀x ∈ fil f n k,0<=x/\x<=2147483646:=by
 intro x hx;obtain ⟨i,_,rfl⟩:=List.mem_map.1 hx;split
 ·exact hf i
 ·omega
def dlf (C:List Int) (i:Nat):Int:=nm (ev C ((i:Int)+1))
theorem dlf_bd (C:List Int) (i:Nat):0<=dlf C i/\dlf C i<=2147483646:=nm_bd _
def dl (C:List Int) (n:Nat):List Int:=(List.range n).map (dlf C)
theorem dl_len (C:List Int) (n:Nat):(dl C n).length=n:=by simp [dl]
theorem dl_bd (C:List Int) (n:Nat):∀x ∈ dl C n,0<=x/\x<=2147483646:=by
 rw [dl,<- fil_full];exact fil_bd (dlf_bd C) n n
theorem dl_snoc (C:List Int) (n:Nat):dl C n ++ [dlf C n]=dl C (n+1):=by simp [dl,List.range_succ]
theorem dl_getD (C:List Int) {n i:Nat} (h:i<n):(dl C n).getD i 0=dlf C i:=by simp [dl,h]
theorem wpList_appRB {P:Program} {T:TypeId} (hT:P.underlying T=some (.slice 70)) (info:(P.info? 70).map (λi=>(i.zero,i.size,i.bytes))=some (some (.int .u64 0),1,8)) (w) {ops:Array Oper} {rest:List Oper} {o:Oper} {a:Act} {Q:Exit->Act->World->Prop} (hgd:o.guard=none) (s x:Operand) (ho:o.op = .call { callee:=.builtin .append,args:=#[s,x],argTypes:=#[T,T] }) (y:Int) (hy0:0<=y) (hy1:y<=18446744073709551615) (a0 m c xs) (hR:Rd w a0 m c xs) (hs:a.eval s = .slice (some ⟨w.heap.size,0,none⟩) 1 1) (hx:a.eval x = .slice a0 m c) (hm:m<=1000) (h:∀a' c' w',Rd w' a' (m+1) c' (y :: xs)->(∀x,a'=some x->w.heap.size<=x.block)->Below w.heap.size w w'->wpList P ops Q rest (a.put o.dst (.slice a' (m+1) c')) w'):
  wpList P ops Q (o :: rest) a (w.alloc (.cells #[.int .u64 y] 70)):=by
 obtain ⟨i0,hi,ag,ah,ai⟩:=info_parts info;have hb:Below w.heap.size w (w.alloc (.cells #[.int .u64 y] 70)):=bal _ _;have aa:(w.alloc (.cells #[.int .u64 y] 70)).ownsRow w.heap.size 70 1 (.slice (some ⟨w.heap.size,0,none⟩) 1 1) 1 [.int .u64 y]:=
  ⟨rfl,Or.inr ⟨_,1,#[.int .u64 y],rfl,Nat.le_refl _,heap_alloc_new w _,Nat.le_refl _,by unfold maxLen;omega,rfl,rfl⟩⟩
 have af:∀z ∈ y :: xs,0<=z/\z<=18446744073709551615:=by
  intro z hz;rcases List.mem_cons.1 hz with rfl | hz
  ·exact ⟨hy0,hy1⟩
  ·exact hR.bd z hz
 have hl:=hR.len;cases a0 with
 | none=>
  have hc:=hR.nil rfl;have ak:=hR.cap;obtain rfl:m=0:=by omega
  subst hc;obtain rfl:xs = []:=List.eq_nil_of_length_eq_zero hl;refine wpList_append_own_none hgd s x T ho w.heap.size 70 i0 1 hT hi _ 1 _ hs aa hx ?_;obtain ⟨a',c',e,hr,hx⟩:=Rd.own (xs:=[y]) aa af;rw [e];exact h a' c' _ hr hx hb
 | some ad=>
  refine wpList_append_own _ hgd s x T ho w.heap.size 70 i0 (.int .u64 0) 1 8 hT hi ag ah ai rfl (by decide) _ 1 _ hs aa ad m c (xs.map (Value.int .u64)) hx (by rw [List.length_map,hl,Nat.mul_one]) ?_ ?_ (by unfold maxLen;omega) (by omega) (by simp) ?_
  ·intro j u hj;rw [List.getElem?_map] at hj;have aj:j<xs.length:=by
    rcases Nat.lt_or_ge j xs.length with h' | h'
    ·exact h'
    ·rw [List.getElem?_eq_none h'] at hj;cases hj
   rw [getD_some aj] at hj;simp only [Option.map_some,Option.some.injEq] at hj;rw [<- hj];exact (hR.below hb).cell ad rfl j (by omega)
  ·intro u hu;obtain ⟨z,_,rfl⟩:=List.mem_map.1 hu;rfl
  ·intro v' w' ab ae _;rw [Nat.add_comm] at ab;obtain ⟨a',c',rfl,hr,hx⟩:=Rd.own (xs:=y :: xs) ab af;refine h a' c' w' hr hx (hb.grown ae (by simp) (λk hk=>?_));simp [Value.ownBlock] at hk;omega
theorem wpList_appR {P:Program} {T:TypeId} (hT:P.underlying T=some (.slice 70)) (info:(P.info? 70).map (λi=>(i.zero,i.size,i.bytes))=some (some (.int .u64 0),1,8)) (w) {ops:Array Oper} {rest:List Oper} {o:Oper} {a:Act} {Q:Exit->Act->World->Prop} (hgd:o.guard=none) (s x:Operand) (ho:o.op = .call { callee:=.builtin .append,args:=#[s,x],argTypes:=#[T,T] }) (y:Int) (hy0:0<=y) (hy1:y<=18446744073709551615) (a0 m c xs) (hR:Rd w a0 m c xs) (hs:a.eval s = .slice (some ⟨w.heap.size,0,none⟩) 1 1) (hx:a.eval x = .slice a0 m c) (hm:m<=1000) (h:∀a' c' w',Rd w' a' (m+1) c' (y :: xs)->Below w.heap.size w w'->wpList P ops Q rest (a.put o.dst (.slice a' (m+1) c')) w'):
  wpList P ops Q (o :: rest) a (w.alloc (.cells #[.int .u64 y] 70)):=
 wpList_appRB hT info w hgd s x ho y hy0 hy1 a0 m c xs hR hs hx hm λa' c' w' h1 _ h2=>h a' c' w' h1 h2
theorem cDealE (s a) (m:Nat) (c) (n:Int) (w) (hm:m<=9223372036854775807) (h:4<m\/n<=m\/9<n):
  Calls Tryz.prog 65 #[.int .u64 s,.slice a m c,.int .i64 n] w λe w'=>e = .returned (.tuple #[.slice none 0 0,.int .i64 1])/\w'=w:=by
 by_cases h1:4<m
 ·clear h;go_enter Tryz.func65,Tryz.ntmps65;go_wp2;go_ret2;exact ⟨rfl,rfl⟩
 ·by_cases h2:n<=m
  ·clear h;go_enter Tryz.func65,Tryz.ntmps65;go_wp2;go_ret2;exact ⟨rfl,rfl⟩
  ·have h3:9<n:=by omega
   clear h;go_enter Tryz.func65,Tryz.ntmps65;go_wp2;go_ret2;exact ⟨rfl,rfl⟩
theorem cDealOK (s:Int) (a m c xs) (n:Nat) (w) (h:Rd w a m c xs) (hs0:0<=s) (hs1:s<=18446744073709551615) (hm:m<=4) (hn:m<n) (hn9:n<=9):
  Calls Tryz.prog 65 #[.int .u64 s,.slice a m c,.int .i64 n] w λe w'=>∃g,e = .returned (.tuple #[.slice (some ⟨g,0,none⟩) n n,.int .i64 0])/\Rd w' (some ⟨g,0,none⟩) n n (dl (s :: xs) n)/\w.heap.size<=g/\Below w.heap.size w w':=by
 obtain ⟨i0,hi,ap,aq,ar⟩:=info_parts info70;have az:=h.len;go_enter Tryz.func65,Tryz.ntmps65;go_wp2_with (first | (at_builtin;refine wpList_appR Tryz.underlying52 info70 _ rfl _ _ rfl s hs0 hs1 a m c xs h rfl rfl (by omega) ?_;intro a1 c1 w1 au an) | (at_make;refine wpList_make_full _ rfl _ _ 52 rfl w1.heap.size 70 i0 (.int .u64 0) 1 Tryz.underlying52 hi ap aq .i64 .i64 _ _ n rfl rfl (by omega) (by omega) (by rw [ar];omega) (by unfold maxLen;omega) (Nat.le_refl _) ?_;intro w2 aj af));have hs1:=an.size;have ao:Blk w2 w1.heap.size (fil (dlf (s :: xs)) n 0):=by rw [<- fil_zero];exact Blk.made aj
 have ak:Below w1.heap.size w1 w2:=(Below.refl _ _).grown af (Nat.le_refl _) (by simp);have al:Below w.heap.size w w2:=an.trans (ak.mono hs1);clear aj af;go_loopw [32] (λi wr=>∃k:Nat,k<=n/\i = .int .i64 k/\Blk wr w1.heap.size (fil (dlf (s :: xs)) n k)/\Below w1.heap.size w1 wr/\Below w.heap.size w wr) (λi _=>n-(intOf i).toNat)
 case atStart=>exact ⟨0,Nat.zero_le _,rfl,ao,ak,al⟩
 case round=>
  clear ao ak al;obtain ⟨k,hk,rfl,ab,ad,ae⟩:=hrel;by_cases hlt:k<n
  ·have hr:=au.below ad;have HF:Hid (nm (ev (s :: xs) ((k:Int)+1))=dlf (s :: xs) k):=rfl;go_wp2_with fail;refine (cEvalOK _ _ _ _ _ _ hr (by omega) (by omega) (by omega)).mono ?_;rintro e w3 ⟨rfl,ag⟩;rw [HF.out];have aa:=ab.below ag ab.lt;have ay:=aa.cell (i:=k) (by rw [fil_len];exact hlt);have aB:=aa.frozen k;have aA:=aa.lt;have ah:=aa.set k (dlf (s :: xs) k);rw [fil_set rfl] at ah;have am:=btr ad ag;have ai:=btr ae ag;have av:Hid (Below w1.heap.size w1 (w3.setCell ⟨w1.heap.size,k,none⟩ (.int .u64 (dlf (s :: xs) k)))):=am.setCell (Nat.le_refl _) _;have aw:Hid (Below w.heap.size w (w3.setCell ⟨w1.heap.size,k,none⟩ (.int .u64 (dlf (s :: xs) k)))):=ai.setCell hs1 _;clear ad ae ag ab aa am ai hr;go_wp2;go_roundw
   case rel=>exact ⟨k+1,by omega,by go_num,ah,av.out,aw.out⟩
   case measure=>simp [intOf];omega
  ·have ax:k=n:=by omega
   subst ax;have hr:Rd wr (some ⟨w1.heap.size,0,none⟩) k k (dl (s :: xs) k):=by
    rw [fil_full] at ab;exact Blk.whole ab k (dl_len _ _).symm (by unfold maxLen;omega) (bd_u64 (dl_bd _ _))
   go_wp2;go_ret2;exact ⟨_,rfl,hr,hs1,ae⟩
end
section
open Crm
theorem any_open {C:List Int} {l:List (Int×Int)} {n} {k:Nat} (hd:dis (fa l) n) (hk:k<=4) (hkn:k<n) (hC:C.length<=k+1) (hy:Hs l n C) {x r} (h:Opn l n k x r):x=nm (ev C 0)/\r=0:=by
 have h1:Opn l n k (nm (ev C 0)) 0:=Or.inr ⟨Or.inr (Or.inr (Or.inr ⟨⟨by omega,by omega⟩,hd,by omega,rfl⟩)),Or.inl ⟨C,by omega,hy,rfl,rfl⟩⟩;exact h.one h1
end
section
open Crm Go.RowKit
theorem rDealtO (s:Int) (a m c xs) (n:Nat) (w) (h:Rd w a m c xs) (hs0:0<=s) (hs1:s<=18446744073709551615) (hm:m<=4) (hn9:n<=9):
  Calls Tryz.prog 73 #[.int .u64 s,.slice a m c,.int .i64 n] w λe w'=>∃v,e = .returned v/\w'.ownsRow w.heap.size 70 1 v n ((dl (s :: xs) n).map (Value.int .u64))/\Below w.heap.size w w':=by
 go_enter Tryz.func73,Tryz.ntmps73;go_wp2_with (at_builtin;refine wpList_appR Tryz.underlying52 info70 _ rfl _ _ rfl s hs0 hs1 a m c xs h rfl rfl (by omega) ?_;intro a1 c1 w1 ah ag);have hs1:=ag.size;go_loopw [8,9] (λv i wr=>∃k:Nat,k<=n/\i = .int .i64 (k+1)/\wr.ownsRow w1.heap.size 70 1 v k ((dl (s :: xs) k).map (Value.int .u64))/\Below w1.heap.size w1 wr) (λ_ i _=>n+1-(intOf i).toNat)
 case atStart=>exact ⟨0,Nat.zero_le _,rfl,World.ownsRow_nil _ _ _ _,Below.refl _ _⟩
 case round=>
  obtain ⟨k,hk,rfl,ad,aa⟩:=hrel;have aj:=aa.size;by_cases hlt:k<n
  ·have HF:Hid (nm (ev (s :: xs) ((k:Int)+1))=dlf (s :: xs) k):=rfl;go_wp2_with fail;refine (rEval _ _ _ _ _ _ (ah.below aa) (by omega) (by omega) (by omega)).mono ?_;rintro e w3 ⟨rfl,hw⟩;have hw:=hw.symm;subst hw;rw [HF.out];go_wp2_with (at_builtin;refine wpList_app1 Tryz.underlying52 info70 _ rfl _ _ rfl w1.heap.size _ _ _ rfl ad _ rfl (by omega) (by omega) ?_;intro v' w7 ab ae;rw [dl_snoc] at ab);have af:=aa.trans ae;go_roundw
   case rel=>exact ⟨k+1,by omega,by go_num,ab,af⟩
   case measure=>simp [intOf];omega
  ·have ai:k=n:=by omega
   subst ai;go_wp2;go_ret;exact ⟨_,rfl,own_base ad hs1,ag.trans (aa.mono hs1)⟩
theorem rDealt (s:Int) (a m c xs) (n:Nat) (w) (h:Rd w a m c xs) (hs0:0<=s) (hs1:s<=18446744073709551615) (hm:m<=4) (hn9:n<=9):
  Calls Tryz.prog 73 #[.int .u64 s,.slice a m c,.int .i64 n] w λe w'=>∃a' c',e = .returned (.slice a' n c')/\Rd w' a' n c' (dl (s :: xs) n)/\Below w.heap.size w w':=by
 refine (rDealtO s a m c xs n w h hs0 hs1 hm hn9).mono ?_;rintro e w' ⟨v,rfl,aa,hb⟩;obtain ⟨a',c',rfl,ab,_⟩:=Rd.own aa (bd_u64 (dl_bd _ _));exact ⟨_,_,rfl,ab,hb⟩
theorem rDealE (s a) (m:Nat) (c) (n:Int) (w) (hm:m<=9223372036854775807) (h:4<m\/n<=m\/9<n):
  Calls Tryz.prog 31 #[.int .u64 s,.slice a m c,.int .i64 n] w λe w'=>e = .returned (.tuple #[.slice none 0 0,.int .i64 1])/\w'=w:=by
 by_cases h1:4<m
 ·clear h;go_enter Tryz.func31,Tryz.ntmps31;go_wp2;go_ret2;exact ⟨rfl,rfl⟩
 ·have HN:Hid (n<(m:Int)+1\/9<n):=by unfold Hid;omega
  clear h;go_enter Tryz.func31,Tryz.ntmps31;go_wp2_with (go_at_call 35;refine (rInN _ _ _ _ HN.out).mono ?_;rintro e w' ⟨rfl,hw⟩;have hw:=hw.symm;subst hw);go_ret2;exact ⟨rfl,rfl⟩
theorem rDealOK (s:Int) (a m c xs) (n:Nat) (w) (h:Rd w a m c xs) (hs0:0<=s) (hs1:s<=18446744073709551615) (hm:m<=4) (hn:m<n) (hn9:n<=9):
  Calls Tryz.prog 31 #[.int .u64 s,.slice a m c,.int .i64 n] w λe w'=>∃a' c',e = .returned (.tuple #[.slice a' n c',.int .i64 0])/\Rd w' a' n c' (dl (s :: xs) n)/\Below w.heap.size w w':=by
 go_enter Tryz.func31,Tryz.ntmps31;go_wp2_with (first | (go_at_call 35;refine (rInY _ _ _ _ (by omega) (by omega)).mono ?_;rintro e w' ⟨rfl,hw⟩;have hw:=hw.symm;subst hw) | (go_at_call 73;refine (rDealt _ _ _ _ _ _ _ h hs0 hs1 hm hn9).mono ?_;rintro e w' ⟨a',c',rfl,hr,hb⟩));go_ret2;exact ⟨_,_,rfl,hr,hb⟩
theorem Blk.lit1 (w:World) (x:Int):Blk (w.alloc (.cells #[.int .u64 x] 70)) w.heap.size [x]:=heap_alloc_new w _
theorem Blk.lit2 (w:World) (x y:Int):Blk (w.alloc (.cells #[.int .u64 x,.int .u64 y] 70)) w.heap.size [x,y]:=heap_alloc_new w _
theorem cThroughOK (a n c l w) (h:RdS w a n c l) (hn:n<=40) (ho:okk l n):
  Calls Tryz.prog 154 #[.slice a n c] w λe w'=>∃S g,e = .returned (.tuple #[.slice (some ⟨g,0,none⟩) (tl S n) n,.int .i64 0])/\S.length=n/\(∀x ∈ S,0<=x/\x<=2147483646)/\
   (∀j,j<n->nm (ev S (l.getD j (0,0)).1)=nm (l.getD j (0,0)).2)/\Rd w' (some ⟨g,0,none⟩) (tl S n) n (trm S)/\Below w.heap.size w w':=by
 obtain ⟨i0,hi,aN,aO,aP⟩:=info_parts info70;have HO:=hid ho;clear ho;have aX:=h.len;go_enter Tryz.func154,Tryz.ntmps154;go_wp2_with fail;refine (cPlaced _ _ _ _ _ h (by omega)).mono ?_;rintro e w1 ⟨r,rfl,hr,ap⟩;obtain rfl:r=true:=hr.2 HO.out;clear hr;have aq:=ap.size;go_wp2_with (at_make;refine wpList_make_full _ rfl _ _ 52 rfl w1.heap.size 70 i0 (.int .u64 0) 1 Tryz.underlying52 hi aN aO .i64 .i64 _ _ n rfl rfl (by omega) (by omega) (by rw [aP];omega) (by unfold maxLen;omega) (Nat.le_refl _) ?_;intro w2 ar aj);have au:Blk w2 w1.heap.size (List.replicate n 0):=Blk.made ar;have aD:Below w1.heap.size w1 w2:=(Below.refl _ _).grown aj (Nat.le_refl _) (by simp);have av:Below w.heap.size w w2:=ap.trans (aD.mono aq);clear ar aj;obtain ⟨g1,aE⟩:∃g1,g1=w1.heap.size:=⟨_,rfl⟩;rw [<- aE] at au aq ⊢;clear aE aD ap;have aQ:=au.lt;go_loopw [5,24] (λz i wr=>∃(k:Nat) (S Z:List Int) (gz:Nat),k<=n/\i = .int .i64 k/\z = .slice (some ⟨gz,0,none⟩) (k+1) (k+1)/\Hid (NwI l n k S Z)/\Blk wr g1 S/\Blk wr gz Z/\gz≠g1/\Below w.heap.size w wr) (λ_ i _=>n-(intOf i).toNat)
 case atStart=>exact ⟨0,_,_,_,Nat.zero_le _,rfl,rfl,nw_start l n,au.below ((Below.refl _ _).alloc (Nat.le_refl _) _) aQ,Blk.lit1 _ _,by omega,av.alloc (av.size) _⟩
 case round=>
  obtain ⟨k,S,Z,gz,hk,rfl,rfl,HI,af,aw,aF,aa⟩:=hrel;have ak:=HI.out.ls;have aG:=HI.out.lz;have ag:=hid HI.out.bs;have aH:=hid HI.out.bz;by_cases hlt:k<n
  ·obtain ⟨b,o,x,y,rfl,a0,HX,HY,a1,a2,a3,a4,aR,aS⟩:=(h.below aa).one hlt;have ax:=(HO.out k hlt).1;rw [HX.out] at ax;have aY:=ax.1;have aZ:=ax.2;have HE:Hid (nm (nm (ev Z x))≠0):=by rw [nm_nm,<- HX.out];exact HI.out.z1 k (Nat.le_refl _) hlt
   have a5:=nm_bd (ev S x);have a6:=nm_bd (ev Z x);have a7:=nm_bd (y-nm (ev S x));have a8:=iv_bd (nm (ev Z x));have a9:=nm_bd (-x);have al:Below wr.heap.size wr (wr.alloc (.cells #[.int .i64 x,.int .u64 y] 74)):=bal _ _;have aL:=cell_alloc0 wr (.int .i64 x) (.int .u64 y) 74;have aM:=cell_alloc1 wr (.int .i64 x) (.int .u64 y) 74;go_wp2;generalize hW:wr.alloc (.cells #[.int .i64 x,.int .u64 y] 74)=W at *;clear hW;have am:Below w.heap.size w W:=btr aa al;have ah:=af.below al af.lt;have ai:=aw.below al aw.lt;have rS:Rd W (some ⟨g1,0,none⟩) n n S:=ah.whole n ak.symm (by unfold maxLen;omega) (bd_u64 ag.out);have rZ:Rd W (some ⟨gz,0,none⟩) (k+1) (k+1) Z:=ai.whole (k+1) aG.symm (by unfold maxLen;omega) (bd_u64 aH.out);clear al af aw aa aR aS;go_quiet ((first | (go_at_call 155;exact Calls.quiet_of (cValueQ _ _ _ _ _ _ (rS.drewN _) (by omega) (by omega))) | (go_at_call 158;exact Calls.quiet_of_same (fSub _ _ _ (by omega) (by omega) (by omega) (by omega)))));go_wp2_with fail;refine (cValueQ _ _ _ _ _ _ (rZ.drewN _) (by omega) (by omega)).mono ?_;rintro e w3 ⟨rfl,q3,rfl⟩;go_wp2_with fail;refine (fInv1 _ _ (by omega) (by omega) HE.out).mono ?_;rintro e w3 ⟨rfl,rfl⟩;obtain ⟨t,HT⟩:∃t,Hid (t=nm (nm (y-nm (ev S x))*iv (nm (ev Z x)))):=⟨_,rfl⟩;have ba:0<=t/\t<=2147483646:=by rw [HT.out];exact nm_bd _
   have aT:Hid (NwI l n (k+1) (addAt S 0 Z t (k+1)) (cvl Z [nm (-x),1])):=nw_step HI.out hlt HO.out HX.out HY.out HT.out;go_wp2_with (go_at_call 149;refine (fMul _ _ _ (by omega) (by omega) (by omega) (by omega)).mono ?_;rintro e w3 ⟨he,rfl⟩;rw [<- HT.out] at he;subst he);refine (cAddTimes _ _ _ _ _ _ _ _ _ _ _ (by exact ah) (bd_u64 ag.out) (rZ.drewN _) (λx hx=>by obtain rfl:=Option.some.inj hx;exact aF) (by omega) (by omega) (by omega) (by omega) (by omega)).mono ?_;rintro e w4 ⟨rfl,ay,az⟩;have aA:Blk w4 gz Z:=Blk.grown (by exact ai) az (by simpa using aF);have ab:Below w.heap.size w w4:=below_grown (drewN_below am _) az aq;have an:Below w4.heap.size w4 (w4.alloc (.cells #[.int .u64 (nm (-x)),.int .u64 1] 70)):=bal _ _;have aB:=Blk.lit2 w4 (nm (-x)) 1;clear am ah ai rS rZ az aL aM;go_wp2_with (go_at_call 158;refine (fSub _ _ _ (by omega) (by omega) (by omega) (by omega)).mono ?_;rintro e w3 ⟨rfl,hw⟩;have hw:=hw.symm;subst hw);generalize hW5:w4.alloc (.cells #[.int .u64 (nm (-x)),.int .u64 1] 70)=W5 at *;have bb:w4.heap.size<W5.heap.size:=aB.lt;clear hW5;have ad:Below w.heap.size w W5:=btr ab an;have aI:=aA.below an aA.lt;have ao:=ay.below an ay.lt;have bc:=ao.lt;have aJ:Rd W5 (some ⟨gz,0,none⟩) (k+1) (k+1) Z:=aI.whole (k+1) aG.symm (by unfold maxLen;omega) (bd_u64 aH.out);have aK:Rd W5 (some ⟨w4.heap.size,0,none⟩) 2 2 [nm (-x),1]:=aB.whole 2 rfl (by unfold maxLen;omega) (by
    intro u hu;simp only [List.mem_cons,List.not_mem_nil,or_false] at hu;rcases hu with rfl | rfl <;> omega)
   refine (cProduct _ _ _ _ _ _ _ _ _ aJ aK (by omega) (by omega) (by omega) (by omega)).mono ?_;rintro e w6 ⟨rfl,aU,ae⟩;have aV:=ao.below ae ao.lt;have aC:=btr ad ae;clear ae ad aI ao aJ aK aB aA ay an ab;go_wp2;go_roundw
   case rel=>exact ⟨k+1,_,_,_,by omega,by go_num,rfl,aT,aV,aU,by omega,aC⟩
   case measure=>simp [intOf];omega
  ·have aW:k=n:=by omega
   subst aW;have rS:Rd wr (some ⟨g1,0,none⟩) k k S:=af.whole k ak.symm (by unfold maxLen;omega) (bd_u64 ag.out);go_wp2_with (go_at_call 189;refine (cTrim _ _ _ _ _ rS).mono ?_;rintro e w' ⟨rfl,hw⟩;have hw:=hw.symm;subst hw);go_ret2;refine ⟨S,g1,rfl,ak,ag.out,HI.out.s,?_,aa⟩
   have ht:=tl_le S k;have:=af.rd 0 (tl S k) k ht (by unfold maxLen;omega) (by omega) (bd_u64 ag.out);rw [List.drop_zero] at this;have e:trm S=S.take (tl S k):=by unfold trm;rw [ak]
   rw [e];exact this
theorem nil_rd' (w:World):Rd w none 0 0 []:=⟨rfl,Nat.le_refl _,Nat.zero_le _,by simp,λ_=>rfl,by simp⟩
theorem nrm_nil {xs:List Int} {n:Nat} (hl:xs.length=n) (h:tl (nz xs) n=0) (x:Int):nm (ev xs x)=0:=by
 have h1:(nrm xs).length=0:=by rw [nrm_len,hl,h]
 rw [<- nrm_ev,List.eq_nil_of_length_eq_zero h1];rfl
theorem rProd (a n c xs b m d ys w) (h:Rd w a n c xs) (g:Rd w b m d ys) (hn:n<=1000) (hm:m<=1000):
  Calls Tryz.prog 194 #[.slice a n c,.slice b m d] w λe w'=>∃p a' c',e = .returned (.slice a' p.length c')/\Rd w' a' p.length c' p/\p.length<=n+m-1/\(∀x,nm (ev p x)=nm (ev xs x*ev ys x))/\Below w.heap.size w w':=by
 have aa:=tl_le (nz xs) n;have ab:=tl_le (nz ys) m;by_cases hz:tl (nz xs) n=0\/tl (nz ys) m=0
 ·refine (rProduct0 _ _ _ _ _ _ _ _ _ h g hn hm hz).mono ?_;rintro e w' ⟨rfl,hb⟩;refine ⟨[],none,0,rfl,nil_rd' _,Nat.zero_le _,λx=>?_,hb⟩
  rcases hz with hz | hz
  ·rw [nm_mul_congr (c:=0) (nrm_nil h.len hz x) rfl,Int.zero_mul];rfl
  ·rw [nm_mul_congr (d:=0) rfl (nrm_nil g.len hz x),Int.mul_zero];rfl
 ·refine (rProduct1 _ _ _ _ _ _ _ _ _ h g hn hm (by omega) (by omega)).mono ?_;rintro e w' ⟨a',c',rfl,hr,hb,_⟩;have hl:=hr.len;refine ⟨cvl (nrm xs) (nrm ys),a',c',by rw [hl],by rw [hl];exact hr,by rw [hl];omega,λx=>?_,hb⟩
  rw [cvl_ev];exact nm_mul_congr (nrm_ev _ _) (nrm_ev _ _)
structure LgI (l:List (Int×Int)) (i m:Nat) (q:List Int):Prop where
 le:q.length<=if i<m then m else m+1
 own:nm (ev q (l.getD i (0,0)).1)=nm (l.getD i (0,0)).2
 zero:∀j,j<m->j≠i->nm (ev q (l.getD j (0,0)).1)=0
theorem lg_start (l:List (Int×Int)) (i:Nat):LgI l i 0 [(l.getD i (0,0)).2]:=
 ⟨by simp,by rw [ev,ev,Int.mul_zero,Int.add_zero],λj hj=>by omega⟩
theorem lg_skip {l i q} (h:LgI l i i q):LgI l i (i+1) q:=
 ⟨by have:=h.le;simp at this ⊢;omega,h.own,λj hj hji=>h.zero j (by omega) hji⟩
theorem lg_step {l n} {i m:Nat} {q} {p:List Int} {x z u:Int} (ho:okk l n) (hi:i<n) (hm:m<n) (h:LgI l i m q) (hne:m≠i) (hx:(l.getD i (0,0)).1=x) (hz:(l.getD m (0,0)).1=z) (hu:u=iv (nm (x+nm (-z)))) (hl:p.length<=q.length+2-1) (hp:∀y,nm (ev p y)=nm (ev q y*ev [nm (nm (-z)*u),u] y)):LgI l i (m+1) p:=by
 have aa:∀y,nm (ev p y)=nm (ev q y*((y-z)*u)):=λy=>by
  rw [hp];refine nm_mul_congr rfl ?_;rw [ev_pair,nm_addl,<- nm_addl,nm_mull,nm_addl,Int.sub_mul,Int.neg_mul];congr 1;omega
 refine ⟨?_,?_,?_⟩
 ·have:=h.le;split at this <;> split <;> omega
 ·rw [aa,hx];have h1:nm ((x-z)*u)=1:=by
   have e:nm (x+nm (-z))=nm (x-z):=by rw [nm_addr];congr 1
   rw [hu,iv_nm,<- nm_mull,<- e,nm_mull];have h2:nm (x+nm (-z))≠0:=by rw [e,<- hx,<- hz];exact ats_apart ho hi hm (λe=>hne e.symm)
   rw [mul_iv h2]
  rw [nm_mul_congr (c:=ev q x) (d:=1) rfl (by rw [h1];rfl),Int.mul_one,<- hx];exact h.own
 ·intro j hj ab;rw [aa];by_cases e:j=m
  ·subst e;rw [hz,Int.sub_self,Int.zero_mul,Int.mul_zero];rfl
  ·rw [nm_mul_congr (c:=0) (h.zero j (by omega) ab) rfl,Int.zero_mul];rfl
structure LoI (l:List (Int×Int)) (n k:Nat) (p:List Int):Prop where
 nml:Nml p
 le:p.length<=n
 val:∀j,j<n->nm (ev p (l.getD j (0,0)).1)=if j<k then nm (l.getD j (0,0)).2 else 0
theorem lo_start (l:List (Int×Int)) (n:Nat):LoI l n 0 []:=⟨⟨λx hx=>(by cases hx),λh=>(by simp at h)⟩,Nat.zero_le _,λj _=>by rw [if_neg (by omega)];rfl⟩
theorem lo_step {l n k p q} (h:LoI l n k p) (hk:k<n) (hq:LgI l k n q):LoI l n (k+1) (nrm (sml p q)):=by
 have aa:q.length<=n:=by have:=hq.le;rw [if_pos hk] at this;exact this
 refine ⟨nrm_Nml _,?_,λj hj=>?_⟩
 ·have:=nrm_le (sml p q);rw [sml_len] at this;have:=h.le;omega
 ·rw [nrm_ev,sml_ev];by_cases e:j=k
  ·subst e;have h1:=h.val j hj;rw [if_neg (by omega)] at h1;rw [if_pos (by omega),nm_add_congr (c:=0) (d:=(l.getD j (0,0)).2) h1 hq.own,Int.zero_add]
  ·have h1:=h.val j hj;rw [nm_add_congr (c:=ev p (l.getD j (0,0)).1) (d:=0) rfl (hq.zero j hj e),Int.add_zero,h1];by_cases h2:j<k
   ·rw [if_pos h2,if_pos (by omega)]
   ·rw [if_neg h2,if_neg (by omega)]
theorem rThroughO (a n c l w) (h:RdS w a n c l) (hn:n<=40) (ho:okk l n):
  Calls Tryz.prog 161 #[.slice a n c] w λe w'=>∃p a' c',e = .returned (.slice a' p.length c')/\w'.ownsRow w.heap.size 70 1 (.slice a' p.length c') p.length (p.map (Value.int .u64))/\LoI l n n p/\Below w.heap.size w w':=by
 have HO:=hid ho;clear ho;have aR:=h.len;go_enter Tryz.func161,Tryz.ntmps161;go_wp2;go_loopw [3,4] (λv i wr=>∃(k:Nat) (p:List Int) (ap:Option Addr) (N cp:Nat),k<=n/\i = .int .i64 k/\v = .slice ap N cp/\wr.ownsRow w.heap.size 70 1 (.slice ap N cp) N (p.map (Value.int .u64))/\Hid (LoI l n k p)/\Below w.heap.size w wr) (λ_ i _=>n-(intOf i).toNat)
 case atStart=>exact ⟨0,[],none,0,0,Nat.zero_le _,rfl,rfl,World.ownsRow_nil _ _ _ _,lo_start l n,Below.refl _ _⟩
 case round=>
  obtain ⟨k,p,ap,N,cp,hk,rfl,rfl,av,HP,ab⟩:=hrel;have aw:Rd wr ap N cp p:=by
   obtain ⟨a2,c2,e2,hr,_⟩:=Rd.own av (bd_u64 HP.out.nml.bd);simp only [Value.slice.injEq,true_and] at e2;obtain ⟨rfl,rfl⟩:=e2;exact hr
  obtain ⟨wo,aJ⟩:∃wo,wo=wr:=⟨_,rfl⟩;subst aJ;have aK:=ab.size;have ax:=aw.len;have aW:N<=n:=by have:=HP.out.le;omega
  by_cases hlt:k<n
  ·obtain ⟨b,o,x,y,rfl,aX,HX,HY,aY,aZ,aL,aM,a0,a1⟩:=(h.below ab).one hlt;have ak:=(HO.out k hlt).1;rw [HX.out] at ak;have aS:=ak.1;have aT:=ak.2;have ay:Below wo.heap.size wo (wo.alloc (.cells #[.int .u64 y] 70)):=bal _ _;have az:=Blk.lit1 wo y;have rA:Rd (wo.alloc (.cells #[.int .u64 y] 70)) (some ⟨wo.heap.size,0,none⟩) 1 1 [y]:=az.whole 1 rfl (by unfold maxLen;omega) (λu hu=>by rw [List.mem_singleton.1 hu];exact ⟨aL,aM⟩);have HS:Hid (LgI l k 0 [y]):=by have:=lg_start l k;rw [HY.out] at this;exact this
   go_wp2;go_loopw [5,6] (λv i wr=>∃(m:Nat) (q:List Int) (aq:Option Addr) (M cq:Nat),m<=n/\i = .int .i64 m/\v = .slice aq M cq/\Rd wr aq M cq q/\Hid (LgI l k m q)/\Below wo.heap.size wo wr) (λ_ i _=>n-(intOf i).toNat)
   case atStart=>exact ⟨0,_,_,_,_,Nat.zero_le _,rfl,rfl,rA,HS,ay⟩
   case round=>
    clear ay az rA HS;obtain ⟨m,q,aq,M,cq,hm,rfl,rfl,af,HQ,ag⟩:=hrel;have aa:Below w.heap.size w wr:=ab.trans (ag.mono aK);have a3:=af.len;have a4:M<=n+1:=by have:=HQ.out.le;split at this <;> omega
    by_cases hmn:m<n
    ·by_cases hmk:m=k
     ·subst hmk;have al:Hid (LgI l m (m+1) q):=lg_skip HQ.out;go_wp2;go_roundw
      case rel=>exact ⟨m+1,q,aq,M,cq,by omega,by go_num,rfl,af,al,ag⟩
      case measure=>simp [intOf];omega
     ·have a7:((m:Int)==(k:Int))=false:=by rw [beq_eq_false_iff_ne];omega
      obtain ⟨b',o',z,y',e',_,HZ,_,a8,a9,_,_,ba,_⟩:=(h.below aa).one hmn;simp only [Option.some.injEq,Addr.mk.injEq,and_true] at e';obtain ⟨rfl,rfl⟩:=e';obtain ⟨bb,bc,ah,be,aA,_,aG,_,_,_,_,_,aQ,_⟩:=(h.below aa).one hlt;simp only [Option.some.injEq,Addr.mk.injEq,and_true] at aA;obtain ⟨rfl,rfl⟩:=aA;have e3:ah=x:=aG.out.symm.trans HX.out;subst e3;have am:=(HO.out m hmn).1;rw [HZ.out] at am;have aU:=am.1;have aV:=am.2;have bf:=nm_bd (-z);have bg:=nm_bd (ah+nm (-z));have HD:Hid (nm (nm (ah+nm (-z)))≠0):=by
       have:=ats_apart HO.out hlt hmn (λe=>hmk e.symm);rw [HX.out,HZ.out] at this;unfold Hid;rw [nm_nm,nm_addr];exact this
      obtain ⟨u,HU⟩:∃u,Hid (u=iv (nm (ah+nm (-z)))):=⟨_,rfl⟩;have bh:0<=u/\u<=2147483646:=by rw [HU.out];exact iv_bd _
      have bi:=nm_bd (nm (-z)*u);go_wp2;go_region;have an:=ag.drew;have aH:=aa.drew;have ao:=af.drew;have ar:Below wr.drew.heap.size wr.drew (wr.drew.alloc (.cells #[.int .u64 (nm (nm (-z)*u)),.int .u64 u] 70)):=bal _ _;have aB:=Blk.lit2 wr.drew (nm (nm (-z)*u)) u;generalize wr.drew=wd at *;go_wp2_with (first | (go_at_call 163;refine (rNeg _ _ (by omega) (by omega)).mono ?_;rintro e w3 ⟨rfl,hw⟩;have hw:=hw.symm;subst hw) | (go_at_call 159;refine (rAdd _ _ _ (by omega) (by omega) (by omega) (by omega)).mono ?_;rintro e w3 ⟨rfl,hw⟩;have hw:=hw.symm;subst hw) | (go_at_call 193;refine (rInv _ _ (by omega) (by omega) HD.out).mono ?_;rintro e w3 ⟨he,hw⟩;have hw:=hw.symm;subst hw;rw [<- HU.out] at he;subst he) | (go_at_call 160;refine (rMul _ _ _ (by omega) (by omega) (by omega) (by omega)).mono ?_;rintro e w3 ⟨rfl,hw⟩;have hw:=hw.symm;subst hw) | fail);have rB:=aB.whole 2 rfl (by unfold maxLen;omega) (by
       intro t ht;simp only [List.mem_cons,List.not_mem_nil,or_false] at ht;rcases ht with rfl | rfl <;> omega)
      have aC:=ao.below ar;have ad:=btr an ar;refine (rProd _ _ _ _ _ _ _ _ _ aC rB (by omega) (by omega)).mono ?_;rintro e w6 ⟨q',a6,c6,rfl,aD,aN,aE,ai⟩;have al:Hid (LgI l k (m+1) q'):=lg_step HO.out hlt hmn HQ.out hmk HX.out HZ.out HU.out (by omega) aE;have au:=btr ad ai;obtain ⟨rl,ae⟩:∃rl,rl=q'.length:=⟨_,rfl⟩;rw [<- ae] at aD ⊢;clear ae ai aE ad aC rB aB ar ao aH an aN;go_wp2;go_roundw
      case rel=>exact ⟨m+1,q',a6,rl,c6,by omega,by go_num,rfl,aD,al,au⟩
      case measure=>simp [intOf];omega
    ·have aI:m=n:=by omega
     subst aI;have aO:Hid (LoI l m (k+1) (nrm (sml p q))):=lo_step HP.out hlt HQ.out;go_wp2_with fail;refine (rSumO _ _ _ _ _ _ _ _ _ (aw.below ag) af (by omega) (by omega)).mono ?_;rintro e w5 ⟨a5,c5,rfl,aj,aF⟩;have aj:=own_base aj aa.size;have ai:=btr aa aF;generalize nrm (sml p q)=R at *;obtain ⟨rl,ae⟩:∃rl,rl=R.length:=⟨_,rfl⟩;rw [<- ae] at aj ⊢;clear ae aF;go_wp2;go_roundw
     case rel=>exact ⟨k+1,R,a5,rl,c5,by omega,by go_num,rfl,aj,aO,ai⟩
     case measure=>simp [intOf];omega
  ·have aP:k=n:=by omega
   subst aP;go_wp2;go_ret;refine ⟨p,ap,cp,?_,?_,HP.out,ab⟩
   ·rw [ax];rfl
   ·rw [ax];exact av
theorem rThrough (a n c l w) (h:RdS w a n c l) (hn:n<=40) (ho:okk l n):
  Calls Tryz.prog 161 #[.slice a n c] w λe w'=>∃p a' c',e = .returned (.slice a' p.length c')/\Rd w' a' p.length c' p/\LoI l n n p/\Below w.heap.size w w':=by
 refine (rThroughO _ _ _ _ _ h hn ho).mono ?_;rintro e w' ⟨p,a',c',rfl,aa,hL,hb⟩;obtain ⟨a2,c2,e2,hr,_⟩:=Rd.own aa (bd_u64 hL.nml.bd);simp only [Value.slice.injEq,true_and] at e2;obtain ⟨rfl,rfl⟩:=e2;exact ⟨p,a',c',rfl,hr,hL,hb⟩
theorem neq_bool {x y:Int} (h:x≠y):(x != y)=true:=by rw [bne_iff_ne];exact h
theorem cWeight (a n c ts) (i:Nat) (w) (h:RdI w a n c ts) (hd:dis (fi ts) n) (hi:i<n):
  Calls Tryz.prog 206 #[.int .i64 (ts.getD i 0),.slice a n c] w λe w'=>e = .returned (.int .u64 (wt ts n i))/\w'=w:=by
 have HD:=hid hd;have al:=dis_nine hd;obtain ⟨T,HT⟩:=nmd (ts.getD i 0);have aa:=(hd i hi).1;unfold fi at aa;rw [HT.out] at aa ⊢;have am:=aa.2;have aa:=aa.1;clear hd;go_enter Tryz.func206,Tryz.ntmps206;go_wp2;go_loop [5,6,13] (λu v q=>∃(k:Nat) (A B:Int),k<=n/\q = .int .i64 k/\u = .int .u64 A/\v = .int .u64 B/\0<=A/\A<=2147483646/\0<=B/\B<=2147483646/\Hid (A=nm (pr ts T 0 k))/\Hid (B=nm (pr ts T T k))) (λ_ _ q=>n-(intOf q).toNat)
 case atStart=>exact ⟨0,1,1,Nat.zero_le _,rfl,rfl,rfl,by omega,by omega,by omega,by omega,by rw [pr];rfl,by rw [pr];rfl⟩
 case round=>
  obtain ⟨k,A,B,hk,rfl,rfl,rfl,ae,af,ag,ah,HA,HB⟩:=hrel;by_cases hlt:k<n
  ·obtain ⟨b,o,x,rfl,an,HX,ao,ai,ap⟩:=h.one hlt;have hx:=(HD.out k hlt).1;unfold fi at hx;rw [HX.out] at hx;have aq:=hx.2;have ai:=hx.1;clear hx;by_cases hxT:x=T
   ·have hb:(x != T)=false:=by rw [hxT];simp
    have ab:Hid (A=nm (pr ts T 0 (k+1))):=by unfold Hid;rw [pr_skip (by rw [HX.out];exact hxT)];exact HA.out
    have ad:Hid (B=nm (pr ts T T (k+1))):=by unfold Hid;rw [pr_skip (by rw [HX.out];exact hxT)];exact HB.out
    clear hxT;go_wp2;go_round
    case rel=>exact ⟨k+1,A,B,by omega,by go_num,rfl,rfl,ae,af,ag,ah,ab,ad⟩
    case measure=>simp [intOf];omega
   ·have hb:(x != T)=true:=neq_bool hxT;have ab:Hid (nm (A*x)=nm (pr ts T 0 (k+1))):=by
     unfold Hid;rw [pr_take (by rw [HX.out];exact hxT),HX.out,HA.out,nm_mull,Int.sub_zero]
    have ad:Hid (nm (B*nm (x-T))=nm (pr ts T T (k+1))):=by
     unfold Hid;rw [pr_take (by rw [HX.out];exact hxT),HX.out,HB.out,nm_mull,nm_mulr]
    have n1:=nm_bd (A*x);have n2:=nm_bd (x-T);have n3:=nm_bd (B*nm (x-T));clear hxT;go_wp2_with (first | (go_at_call 149;refine (fMul _ _ _ (by omega) (by omega) (by omega) (by omega)).mono ?_;rintro e w3 ⟨rfl,hw⟩;have hw:=hw.symm;subst hw) | (go_at_call 158;refine (fSub _ _ _ (by omega) (by omega) (by omega) (by omega)).mono ?_;rintro e w3 ⟨rfl,hw⟩;have hw:=hw.symm;subst hw));go_round
    case rel=>exact ⟨k+1,_,_,by omega,by go_num,rfl,rfl,n1.1,n1.2,n3.1,n3.2,ab,ad⟩
    case measure=>simp [intOf];omega
  ·have aj:k=n:=by omega
   subst aj;have HW:Hid (nm (A*iv B)=wt ts k i):=by unfold Hid wt;rw [HT.out,HA.out,HB.out]
   have ak:Hid (nm B≠0):=by
    unfold Hid;rw [HB.out,nm_nm,<- HT.out];exact pr_own HD.out hi k (Nat.le_refl _)
   have ar:=iv_bd B;have au:=nm_bd (A*iv B);go_wp2_with (first | (go_at_call 186;refine (fInv1 _ _ (by omega) (by omega) ak.out).mono ?_;rintro e w3 ⟨rfl,hw⟩;have hw:=hw.symm;subst hw) | (go_at_call 149;refine (fMul _ _ _ (by omega) (by omega) (by omega) (by omega)).mono ?_;rintro e w3 ⟨rfl,hw⟩;have hw:=hw.symm;subst hw));go_ret;rw [HW.out];exact ⟨rfl,rfl⟩
def Wts (ts:List Int) (n:Nat) (w:World) (e:Ending) (w':World):Prop:=
 ((¬ dis (fi ts) n/\e = .returned (.tuple #[.slice none 0 0,.int .i64 5]))\/(dis (fi ts) n/\∃g,e = .returned (.tuple #[.slice (some ⟨g,0,none⟩) n n,.int .i64 0])/\Rd w' (some ⟨g,0,none⟩) n n ((List.range n).map (wt ts n))/\w.heap.size<=g))/\Below w.heap.size w w'
theorem cWeights1 (a n c ts w) (h:RdI w a n c ts) (hn0:0<n):
  Calls Tryz.prog 183 #[.slice a n c] w λe w'=>Wts ts n w e w':=by
 obtain ⟨i0,hi,aq,ar,au⟩:=info_parts info70;have aF:=h.cap;have ap:=h.max;unfold maxLen at ap;have aH:((n:Int)==0)=false:=by rw [beq_eq_false_iff_ne];omega
 go_enter Tryz.func183,Tryz.ntmps183;go_wp2;go_loopw [15] (λi wr=>∃(k:Nat) (M:List Bool),k<=n/\i = .int .i64 k/\Hid (Mk (fi ts) k M)/\BlkB wr w.heap.size M/\Below w.heap.size w wr) (λi _=>n-(intOf i).toNat)
 case atStart=>exact ⟨0,_,Nat.zero_le _,rfl,mk_start _,heap_alloc_new w _,(Below.refl _ _).alloc (Nat.le_refl _) _⟩
 case round=>
  obtain ⟨k,M,hk,rfl,HM,ad,aa⟩:=hrel;have ah:=aa.size;have ai:=HM.out.len;by_cases hlt:k<n
  ·obtain ⟨b,o,x,rfl,av,HX,aw,ax,an⟩:=(h.below aa).one hlt;go_wp2_with fail;clear an;by_cases hx:x<1\/9<x
   ·have HN:Hid (¬ dis (fi ts) n):=mk_out hlt HX.out hx;refine (cJoinO _ _ _ hx).mono ?_;rintro e w' ⟨rfl,hw⟩;have hw:=hw.symm;subst hw;clear hx;go_wp2;go_ret2;exact ⟨Or.inl ⟨HN.out,rfl⟩,aa⟩
   ·obtain ⟨p,rfl⟩:∃p:Nat,x=p:=⟨x.toNat,by omega⟩;cases hm:M.getD p false with
    | true=>
     have HN:Hid (¬ dis (fi ts) n):=mk_twice HM.out hlt HX.out (by omega) (by omega) hm;refine (cJoinN _ _ _ _ ad ai (by omega) (by omega) hm).mono ?_;rintro e w' ⟨rfl,hw⟩;have hw:=hw.symm;subst hw;clear hm;go_wp2;go_ret2;exact ⟨Or.inl ⟨HN.out,rfl⟩,aa⟩
    | false=>
     have ay:Hid (Mk (fi ts) (k+1) (M.set p true)):=mk_step HM.out HX.out (by omega) (by omega) hm;refine (cJoinY _ _ _ _ ad ai (by omega) (by omega) hm).mono ?_;rintro e w' ⟨rfl,rfl⟩;have az:=ad.set p true;have am:=below_grown aa (grown_set wr w.heap.size p (.bool true)) (Nat.le_refl _);generalize wr.setCell ⟨w.heap.size,p,none⟩ (.bool true)=W3 at *;clear hm;go_wp2;go_roundw
     case rel=>exact ⟨k+1,_,by omega,by go_num,ay,az,am⟩
     case measure=>simp [intOf];omega
  ·have aA:k=n:=by omega
   subst aA;have HD:=hid HM.out.dis;have aI:=dis_nine HD.out;obtain ⟨wo,aB⟩:∃wo,wo=wr:=⟨_,rfl⟩;subst aB;clear ad ai HM;go_wp2_with (at_make;refine wpList_make_full _ rfl _ _ 52 rfl wo.heap.size 70 i0 (.int .u64 0) 1 Tryz.underlying52 hi aq ar .i64 .i64 _ _ k rfl rfl (by omega) (by omega) (by rw [au];omega) (by unfold maxLen;omega) (Nat.le_refl _) ?_;intro w2 aj af);have ad:Blk w2 wo.heap.size (fil (wt ts k) k 0):=by rw [<- fil_zero];exact Blk.made aj
   have ao:Below wo.heap.size wo w2:=(Below.refl _ _).grown af (Nat.le_refl _) (by simp);have ak:Below w.heap.size w w2:=aa.trans (ao.mono ah);clear aj af ao;go_loopw [28] (λi wr=>∃j:Nat,j<=k/\i = .int .i64 j/\Blk wr wo.heap.size (fil (wt ts k) k j)/\Below w.heap.size w wr) (λi _=>k-(intOf i).toNat)
   case atStart=>exact ⟨0,Nat.zero_le _,rfl,ad,ak⟩
   case round=>
    clear ad ak;obtain ⟨j,hj,rfl,ab,ae⟩:=hrel;by_cases hlt2:j<k
    ·have hI:=h.below ae;obtain ⟨b,o,x,rfl,av,HX,aw,ax,an⟩:=hI.one hlt2;have aE:=ab.cell (i:=j) (by rw [fil_len];exact hlt2);have aJ:=ab.frozen j;have aG:=ab.lt;have ag:=ab.set j (wt ts k j);rw [fil_set rfl] at ag;have aC:Hid (Below w.heap.size w (wr.setCell ⟨wo.heap.size,j,none⟩ (.int .u64 (wt ts k j)))):=ae.setCell ah _;have al:=cWeight _ _ _ _ j wr hI HD.out hlt2;rw [HX.out] at al;clear ae ab;go_wp2_with (go_at_call 206;refine al.mono ?_;rintro e w3 ⟨rfl,hw⟩;have hw:=hw.symm;subst hw;clear al);go_roundw
     case rel=>exact ⟨j+1,by omega,by go_num,ag,aC.out⟩
     case measure=>simp [intOf];omega
    ·have aD:j=k:=by omega
     subst aD;have hr:Rd wr (some ⟨wo.heap.size,0,none⟩) j j ((List.range j).map (wt ts j)):=by
      rw [fil_full] at ab;exact Blk.whole ab j (by simp) (by unfold maxLen;omega) (bd_u64 (by rw [<- fil_full];exact fil_bd (wt_bd ts j) j j))
     go_wp2;go_ret2;exact ⟨Or.inr ⟨HD.out,_,rfl,hr,ah⟩,ae⟩
def swl (ts:List Int) (i m:Nat):List (Int×Int):=(List.range m).map λj=>(ts.getD j 0,if j=i then 1 else 0)
theorem swl_len (ts:List Int) (i m:Nat):(swl ts i m).length=m:=by simp [swl]
theorem swl_snoc (ts:List Int) (i m:Nat) {x y:Int} (hx:ts.getD m 0=x) (hy:y=if m=i then 1 else 0):swl ts i m ++ [(x,y)]=swl ts i (m+1):=by
 unfold swl;rw [List.range_succ,List.map_append,hy,<- hx];rfl
theorem swl_getD (ts:List Int) (i:Nat) {m j:Nat} (h:j<m):(swl ts i m).getD j (0,0)=(ts.getD j 0,if j=i then 1 else 0):=by simp [swl,h]
theorem swl_ok {ts:List Int} {n} (i:Nat) (hd:dis (fi ts) n):okk (swl ts i n) n:=by
 intro j hj;rw [swl_getD ts i hj];have h1:=(hd j hj).1;unfold fi at h1;refine ⟨⟨h1.1,by simp only;omega⟩,λq hq=>?_⟩
 rw [swl_getD ts i (show q<n by omega)];exact (hd j hj).2 q hq
theorem swl_wt {ts:List Int} {n} {i:Nat} {p} (hd:dis (fi ts) n) (hi:i<n) (h:LoI (swl ts i n) n n p):nm (ev p 0)=wt ts n i:=by
 refine Wgt.one hd ⟨p,h.le,λj hj=>?_,rfl⟩ (wt_wgt hd hi);have:=h.val j hj;rw [if_pos hj,swl_getD ts i hj] at this;rw [this];split <;> rfl
def wtl (ts:List Int) (n k:Nat):List Int:=(List.range k).map (wt ts n)
theorem wtl_snoc (ts:List Int) (n k:Nat):wtl ts n k ++ [wt ts n k]=wtl ts n (k+1):=by simp [wtl,List.range_succ]
theorem wtl_bd (ts:List Int) (n k:Nat):∀x ∈ wtl ts n k,0<=x/\x<=2147483646:=by
 intro x hx;obtain ⟨i,_,rfl⟩:=List.mem_map.1 hx;exact wt_bd ts n i
theorem rWeights (a n c ts w) (h:RdI w a n c ts) (hd:dis (fi ts) n):
  Calls Tryz.prog 164 #[.slice a n c] w λe w'=>∃a' c',e = .returned (.slice a' n c')/\Rd w' a' n c' (wtl ts n n)/\Below w.heap.size w w':=by
 have HD:=hid hd;have aF:=dis_nine hd;clear hd;have aE:=h.cap;have au:=h.max;unfold maxLen at au;go_enter Tryz.func164,Tryz.ntmps164;go_wp2;go_loopw [3,4] (λv i wr=>∃k:Nat,k<=n/\i = .int .i64 k/\wr.ownsRow w.heap.size 70 1 v k ((wtl ts n k).map (Value.int .u64))/\Below w.heap.size w wr) (λ_ i _=>n-(intOf i).toNat)
 case atStart=>exact ⟨0,Nat.zero_le _,rfl,World.ownsRow_nil _ _ _ _,Below.refl _ _⟩
 case round=>
  obtain ⟨k,hk,rfl,ag,ah⟩:=hrel;obtain ⟨wo,aw⟩:∃wo,wo=wr:=⟨_,rfl⟩;subst aw;have ax:=ah.size;by_cases hlt:k<n
  ·go_wp2;go_loopw [5,6] (λv i wr=>∃m:Nat,m<=n/\i = .int .i64 m/\wr.ownsRow wo.heap.size 74 2 v m (shc (swl ts k m))/\Below wo.heap.size wo wr) (λ_ i _=>n-(intOf i).toNat)
   case atStart=>exact ⟨0,Nat.zero_le _,rfl,World.ownsRow_nil _ _ _ _,Below.refl _ _⟩
   case round=>
    obtain ⟨m,hm,rfl,ae,af⟩:=hrel;have ai:=ah.trans (af.mono ax);have aG:=af.size;by_cases hmn:m<n
    ·obtain ⟨b,o,x,rfl,aH,HX,aI,aJ,aK⟩:=(h.below ai).one hmn;by_cases hmk:m=k
     ·have ay:((m:Int)==(k:Int))=true:=by rw [beq_iff_eq];omega
      have HS:Hid (swl ts k m ++ [(x,1)]=swl ts k (m+1)):=swl_snoc ts k m HX.out (by rw [if_pos hmk]);clear hmk;go_wp2_with (at_builtin;refine wpList_appS Tryz.underlying72 infoSh _ rfl _ _ rfl wo.heap.size _ _ _ rfl ae _ _ rfl (by omega) (by omega) ?_;intro v' w7 aa ab;rw [HS.out] at aa;have ad:=af.trans ab;clear ab);go_roundw
      case rel=>exact ⟨m+1,by omega,by go_num,aa,ad⟩
      case measure=>simp [intOf];omega
     ·have ay:((m:Int)==(k:Int))=false:=by rw [beq_eq_false_iff_ne];omega
      have HS:Hid (swl ts k m ++ [(x,0)]=swl ts k (m+1)):=swl_snoc ts k m HX.out (by rw [if_neg hmk]);clear hmk;go_wp2_with (at_builtin;refine wpList_appS Tryz.underlying72 infoSh _ rfl _ _ rfl wo.heap.size _ _ _ rfl ae _ _ rfl (by omega) (by omega) ?_;intro v' w7 aa ab;rw [HS.out] at aa;have ad:=af.trans ab;clear ab);go_roundw
      case rel=>exact ⟨m+1,by omega,by go_num,aa,ad⟩
      case measure=>simp [intOf];omega
    ·have av:m=n:=by omega
     subst av;have az:=swl_len ts k m;have aq:∀i,i<m->(-9223372036854775808<=((swl ts k m).getD i (0,0)).1/\((swl ts k m).getD i (0,0)).1<=9223372036854775807)/\0<=((swl ts k m).getD i (0,0)).2/\((swl ts k m).getD i (0,0)).2<=18446744073709551615:=λi hi=>by
      rw [swl_getD ts k hi];have h1:=(HD.out i hi).1;unfold fi at h1;refine ⟨⟨by simp only;omega,by simp only;omega⟩,?_⟩
      simp only;split <;> omega
     obtain ⟨al,cl,rfl,hl⟩:=RdS.own ae az aq;have aA:Hid (okk (swl ts k m) m):=swl_ok k HD.out;have aj:=own_below ag af;clear aq ae ag;go_wp2_with fail;refine (rThrough _ _ _ _ _ hl (by omega) aA.out).mono ?_;rintro e w5 ⟨p,ap,cp,rfl,ar,ak,am⟩;have HV:Hid (nm (ev p 0)=wt ts m k):=swl_wt HD.out hlt ak;have aB:=ak.le;obtain ⟨N,hN⟩:∃N,N=p.length:=⟨_,rfl⟩;rw [<- hN] at ar aB ⊢;have ao:=own_below aj am;have an:=btr ai am;have aL:=an.size;clear hN ak aj hl am ai af;go_wp2_with fail;refine (rEval _ _ _ _ _ _ ar (by omega) (by omega) (by omega)).mono ?_;rintro e w6 ⟨rfl,hw⟩;have hw:=hw.symm;subst hw;rw [HV.out];go_wp2_with (at_builtin;refine wpList_app1 Tryz.underlying52 info70 _ rfl _ _ rfl w.heap.size _ _ _ rfl ao _ rfl (by omega) (by omega) ?_;intro v' w7 aa ab;rw [wtl_snoc] at aa;have ad:=an.trans ab);go_roundw
     case rel=>exact ⟨k+1,by omega,by go_num,aa,ad⟩
     case measure=>simp [intOf];omega
  ·have aC:k=n:=by omega
   subst aC;obtain ⟨a',c',rfl,aD,_⟩:=Rd.own ag (bd_u64 (wtl_bd _ _ _));go_wp2;go_ret;exact ⟨_,_,rfl,aD,ah⟩
theorem tl_take (A:List Int):∀n m,n<=m->tl (A.take m) n=tl A n
 | 0,_,_=>rfl
 | n+1,m,h=>by rw [tl,tl,take_getD,if_pos (show n<m by omega),tl_take A n m (by omega)]
theorem cDivide (g) (n c:Nat) (L b m d D w) (hL:Blk w g L) (hLb:∀ x ∈ L, 0 <= x /\ x <= 2147483646) (hn:n <= L.length) (hc:n <= c) (hcc:c <= 1000) (hD:Rd w b m d D) (hne:∀ x, b = some x -> x.block ≠ g) (hm0:0 < m) (hm:m <= 1000) (hd:nm (D.getD (m - 1) 0) ≠ 0) (hlast:0 < n -> L.getD (n - 1) 0 ≠ 0):
    Calls Tryz.prog 227 #[.slice (some ⟨g, 0, none⟩) n c, .slice b m d] w λe w' => ∃ Q A, e = .returned (.tuple #[.slice (some ⟨w.heap.size, 0, none⟩) (n - (m - 1)) (n - (m - 1)), .slice (some ⟨g, 0, none⟩) (tl A n) c]) /\
      DivI L D Q A n m (n - (m - 1)) 0 /\ Blk w' w.heap.size Q /\ Blk w' g A /\ w.grownBy w' (some g) := by
  obtain ⟨i0, hi, aw, ax, ay⟩ := info_parts info70
  have av := hD.len
  have az := hL.lt
  obtain ⟨q, HQ⟩ := nmd (n - (m - 1))
  have aP : q <= 1000 := by have := HQ.out; omega
  rw [HQ.out]
  obtain ⟨l, hl⟩ : ∃ l, m = l + 1 := ⟨m - 1, by omega⟩
  subst hl
  have am : q = n - l := by have := HQ.out; omega
  have af := hid am
  have aM : (q : Int) = max ((n : Int) - (l : Int)) 0 := by omega
  clear am
  obtain ⟨b1, o1, y, rfl, aQ, HY, aA, aB, aR⟩ := hD.one (show l < l + 1 by omega)
  rw [show l + 1 - 1 = l by omega] at hd
  rw [HY.out] at hd
  have aC : b1 ≠ g := hne _ rfl
  go_enter Tryz.func227, Tryz.ntmps227
  go_wp2_with (first | (go_at_call 186; refine (fInv1 _ _ aA aB hd).mono ?_; rintro e w' ⟨rfl, hw⟩; have hw := hw.symm; subst hw) | (at_make; refine wpList_make_full _ rfl _ _ 52 rfl w.heap.size 70 i0 (.int .u64 0) 1 Tryz.underlying52 hi aw ax .i64 .i64 _ _ q rfl rfl (by omega) (by omega) (by rw [ay]; omega) (by unfold maxLen; omega) (Nat.le_refl _) ?_; intro w1 ah ag))
  all_goals
    have an : Blk w1 w.heap.size (List.replicate q 0) := Blk.made ah
    have ad : Below w.heap.size w w1 := (Below.refl _ _).grown ag (Nat.le_refl _) (by simp)
    have ao : Blk w1 g L := hL.below ad az
    clear ah ag
    go_loopw [10] (λi wr => ∃ (k : Nat) (Q A : List Int), k <= q /\ i = .int .i64 ((k : Int) - 1) /\ Hid (DivI L D Q A n (l + 1) q k) /\ Blk wr w.heap.size Q /\ Blk wr g A /\ w.grownBy wr (some g)) (λi _ => (intOf i + 1).toNat)
    case atStart => exact ⟨q, _, _, Nat.le_refl _, by go_num, div_start hLb (by have := af.out; omega), an, ao, grown_below ad _⟩
    case round =>
      obtain ⟨k, Q, A, hk, rfl, HI, ae, ab, aa⟩ := hrel
      have aS : A.length = L.length := HI.out.la
      have aT : Q.length = q := HI.out.lq
      cases k with
      | zero =>
        have hr : Rd wr (some ⟨g, 0, none⟩) n c (A.take n) := ab.rd 0 n c hc (by unfold maxLen; omega) (by omega) (bd_u64 HI.out.ba)
        go_wp2_with (first | (go_at_call 189; refine (cTrim _ _ _ _ _ hr).mono ?_; rintro e w' ⟨rfl, hw⟩; have hw := hw.symm; subst hw) | fail)
        go_ret2
        refine ⟨Q, A, ?_, HI.out, ae, ab, aa⟩
        rw [<- tl_take A n n (Nat.le_refl _)]
        rfl
      | succ k =>
        first
        | (exfalso; have := af.out; omega)
        | (skip
           have aU : k + l < n := by have := af.out; omega
           have ap := ab.cell (i := k + l) (by omega)
           obtain ⟨x, hx⟩ : ∃ x, A.getD (k + l) 0 = x := ⟨_, rfl⟩
           have aV : 0 <= x /\ x <= 2147483646 := by rw [<- hx]; exact getD_bd' HI.out.ba _
           rw [hx] at ap
           have HX := hid hx
           clear hx
           have aN := iv_bd y
           obtain ⟨v, hv⟩ : ∃ v, v = nm (x * iv y) := ⟨_, rfl⟩
           have aW : 0 <= v /\ v <= 2147483646 := by rw [hv]; exact nm_bd _
           have aD := ae.cell (i := k) (by omega)
           have aE := ae.frozen k
           have aF := ab.frozen
           have aG : Hid (DivI L D (Q.set k v) (addAt A k D (nm (-v)) (l + 1)) n (l + 1) q k) := by
             rw [<- Int.zero_sub v]
             exact div_step HI.out (by omega) (by have := af.out; omega) (by omega) av hn (by rw [show l + 1 - 1 = l by omega, HY.out]; exact hd) (hlast (by omega)) HX.out (by rw [hv, show l + 1 - 1 = l by omega, HY.out])
           have ai : w.heap.size ≠ g := by omega
           have aq : wr.grownBy (wr.setCell ⟨w.heap.size, k, none⟩ (.int .u64 v)) (some w.heap.size) := grown_set _ _ _ _
           have aj := ae.set k v
           have ar := ab.grown aq (by simpa using ai.symm)
           have au := (hD.grown aa (λx hx => by obtain rfl := Option.some.inj hx; simpa using aC)).grown aq (λx hx => by obtain rfl := Option.some.inj hx; simp; omega)
           have ak : w.grownBy (wr.setCell ⟨w.heap.size, k, none⟩ (.int .u64 v)) (some g) := by
             refine ⟨aa.os, aa.tape, aa.output, by simpa using aa.size, λj hj hjr => ?_⟩
             rw [heap_setCell_other _ _ _ _ (show j ≠ w.heap.size by omega)]
             exact aa.block j hj hjr
           have HV := hid hv
           have aX : ¬ c = k := by omega
           have aH : Hid (∀ x ∈ A, 0 <= x /\ x <= 2147483646) := HI.out.ba
           clear hv
           have aY : (wr.setCell ⟨w.heap.size, k, none⟩ (.int .u64 v)).cell? ⟨w.heap.size, k, none⟩ = some (.int .u64 v) := by
             rw [aj.cell (by rw [List.length_set]; omega), getD_set, if_pos (by omega)]
           have aL := nm_bd (-v)
           have aZ : (0 : Int) <= (k : Int) := by omega
           have a0 : (k : Int) < (q : Int) := by omega
           have a1 : (k : Int) <= (n : Int) := by omega
           have aO : (n : Int) <= (c : Int) := by omega
           go_wp2_with (first | (go_at_call 149; refine (fMul _ _ _ (by omega) (by omega) (by omega) (by omega)).mono ?_; rintro e w' ⟨he, hw⟩; have hw := hw.symm; subst hw; rw [<- HV.out] at he; subst he) | fail)
           generalize hws : wr.setCell ⟨w.heap.size, k, none⟩ (.int .u64 v) = ws at *
           clear hws ae ab aa ap aD aE aF HI an ao ad hD hL
           go_region_with (first | (go_at_call 158; refine (fSub _ _ _ (by omega) (by omega) (by omega) (by omega)).mono ?_; rintro e w' ⟨rfl, rfl⟩) | (go_at_call 187; refine (cAddTimes _ _ _ _ _ _ _ _ _ _ _ (by exact ar) (bd_u64 aH.out) au.drew (by exact hne) (by omega) (by omega) (by omega) (by omega) (by omega)).mono ?_; rintro e w3 ⟨rfl, aI, al⟩))
           all_goals
             have aJ := (show Blk ws.drew _ _ from aj).grown al (by simpa using ai)
             have aK := grown_trans (grown_drew ak) al
             clear al aj ar au ak
             go_wp2
             go_roundw
             case rel => exact ⟨k, _, _, by omega, by go_num, aG, aJ, aI, aK⟩
             case measure => simp [intOf])
theorem tl_small {xs:List Int} {n p:Nat} (h:∀t,p<=t->t<n->xs.getD t 0=0):tl xs n<=p:=by
 rcases Nat.lt_or_ge p (tl xs n) with ab | aa
 ·have h1:=tl_top xs n (by omega);have h2:=tl_le xs n;exact absurd (h (tl xs n-1) (by omega) (by omega)) h1
 ·exact aa
theorem div_done {X D:List Int} {Q A} {n N M:Nat} (hX:X.length=n) (hN:N=tl (nz X) n) (hM:0<M) (hD:D.length=M) (h:DivI (nz X) D Q A N M (N-(M-1)) 0):
  Nml Q/\Nml (A.take (tl A N))/\(A.take (tl A N)).length=tl A N/\tl A N<M/\∀t,nm (pc Q D t Q.length+(A.take (tl A N)).getD t 0)=nm (X.getD t 0):=by
 have ab:N<=n:=by rw [hN];exact tl_le _ _
 have ad:A.length=n:=by rw [h.la,nz_len,hX]
 have ae:=tl_le A N;have aa:(A.take (tl A N)).length=tl A N:=by simp;omega
 have af:tl A N<=M-1:=tl_small λt h1 h2=>h.hi t (by omega) h2;refine ⟨⟨h.bq,λhq=>?_⟩,⟨λx hx=>h.ba x (List.mem_of_mem_take hx),λhr=>?_⟩,aa,by omega,λt=>?_⟩
 ·rw [h.lq] at hq ⊢;exact h.top hq
 ·rw [aa] at hr ⊢;rw [take_getD,if_pos (by omega)];exact tl_top A N hr
 ·rw [h.lq,<- nz_getD];have hr:(A.take (tl A N)).getD t 0=if t<N then A.getD t 0 else 0:=by
   rw [take_getD];by_cases h1:t<tl A N
   ·rw [if_pos h1,if_pos (by omega)]
   ·rw [if_neg h1];by_cases h2:t<N
    ·rw [if_pos h2,tl_above A N t (by omega) h2]
    ·rw [if_neg h2]
  rw [hr];have hb:=getD_bd' (nz_bd' X) t;by_cases h2:t<N
  ·rw [if_pos h2,Int.add_comm,h.eq t h2,nm_small hb.1 hb.2]
  ·rw [if_neg h2,Int.add_zero];have e1:pc Q D t (N-(M-1))=0:=by
    by_cases h3:M<=N+1
    ·exact pc_far Q D t _ (by omega)
    ·rw [show N-(M-1)=0 by omega];rfl
   rw [e1];by_cases h3:t<n
   ·rw [tl_above (nz X) n t (by omega) h3];rfl
   ·rw [getD_big (show (nz X).length<=t by rw [nz_len];omega)];rfl
theorem cDivOK (a n c xs b m d ys w) (h:Rd w a n c xs) (g:Rd w b m d ys) (hn:n<=40) (hm:m<=40) (hy:0<tl (nz ys) m):
  Calls Tryz.prog 211 #[.slice a n c,.slice b m d] w λe w'=>∃Q R aq ar cq cr,e = .returned (.tuple #[.slice aq Q.length cq,.slice ar R.length cr,.int .i64 0])/\Rd w' aq Q.length cq Q/\Rd w' ar R.length cr R/\Nml Q/\Nml R/\
   R.length<(nrm ys).length/\Q.length<=40/\(∀t,nm (pc Q (nrm ys) t Q.length+R.getD t 0)=nm (xs.getD t 0))/\Below w.heap.size w w':=by
 have al:=tl_le (nz xs) n;have am:=tl_le (nz ys) m;have ag:=h.len;have ah:=g.len;have ab:(nrm ys).length=tl (nz ys) m:=by rw [nrm_len,ah]
 have HT:Hid (0<tl (nz xs) n->(nz xs).getD (tl (nz xs) n-1) 0≠0):=tl_top (nz xs) n;obtain ⟨N,HN⟩:=nmd (tl (nz xs) n);obtain ⟨M,HM⟩:=nmd (tl (nz ys) m);rw [HN.out] at al HT;rw [HM.out] at am hy ab;have HD:Hid (nm ((nrm ys).getD (M-1) 0)≠0):=by
  have h1:=(nrm_Nml ys).top (by omega);have h2:=getD_bd' (nrm_Nml ys).bd (M-1);unfold Hid;rw [nm_small h2.1 h2.2,<- ab];exact h1
 have ao:((M:Int)==0)=false:=by rw [beq_eq_false_iff_ne];omega
 go_enter Tryz.func211,Tryz.ntmps211;go_wp2_with fail;refine (cNormal _ _ _ _ _ g (by omega)).mono ?_;rintro e w1 ⟨rfl,ad,aa⟩;rw [HM.out];go_wp2_with fail;refine (cNormal _ _ _ _ _ (h.below aa) (by omega)).mono ?_;rintro e w2 ⟨rfl,ai,ae⟩;rw [HN.out];have ak:Below w.heap.size w w2:=btr aa ae;have an:=aa.size;have ap:=ad.lt;have r1:=(ad.below ae ad.lt).nrm ah (by omega);rw [HM.out] at r1;go_wp2_with fail;refine (cDivide _ _ _ _ _ _ _ _ _ ai (nz_bd' xs) (by rw [nz_len];omega) (by omega) (by omega) r1 (λx hx=>by obtain rfl:=Option.some.inj hx;simp only;omega) (by omega) (by omega) HD.out HT.out).mono ?_;rintro e w3 ⟨Q,A,rfl,hI,hq,ha,hg⟩;obtain ⟨d1,d2,d3,d4,d5⟩:=div_done ag HN.out.symm hy ab hI;have aj:Q.length=N-(M-1):=hI.lq;have af:=below_grown ak hg an;have R1:Rd w3 (some ⟨w2.heap.size,0,none⟩) Q.length Q.length Q:=by
  have:=hq.rd 0 Q.length Q.length (Nat.le_refl _) (by unfold maxLen;omega) (by omega) (bd_u64 d1.bd);rwa [List.drop_zero,List.take_of_length_le (by omega)] at this
 have R2:Rd w3 (some ⟨w1.heap.size,0,none⟩) (A.take (tl A N)).length n (A.take (tl A N)):=by
  have au:A.length=n:=by rw [hI.la,nz_len,ag]
  have ht:=tl_le A N;have:=ha.rd 0 (tl A N) n (by omega) (by unfold maxLen;omega) (by omega) (bd_u64 hI.ba);rw [List.drop_zero] at this;rw [d3];exact this
 have H:Hid (Nml Q/\Nml (A.take (tl A N))/\(A.take (tl A N)).length<(nrm ys).length/\Q.length<=40/\(∀t,nm (pc Q (nrm ys) t Q.length+(A.take (tl A N)).getD t 0)=nm (xs.getD t 0))):=
  ⟨d1,d2,by omega,by omega,d5⟩
 rw [<- aj];obtain ⟨T,hT⟩:∃T,T=tl A N:=⟨_,rfl⟩;obtain ⟨R,hR⟩:∃R,R=A.take (tl A N):=⟨_,rfl⟩;rw [<- hR] at R2 H d3;rw [<- hT] at d3 ⊢;rw [<- d3];clear hT hR;clear d1 d2 d3 d4 d5 hI hq ha hg ad ai aa ae r1 aj;go_wp2;go_ret3;obtain ⟨k1,k2,k3,k4,k5⟩:=H.out;exact ⟨Q,R,_,_,_,_,rfl,R1,R2,k1,k2,k3,k4,k5,af⟩
theorem cDealB (s:Int) (a m c xs) (n:Nat) (w) (h:Rd w a m c xs) (hs0:0<=s) (hs1:s<=18446744073709551615) (hm:m<=4) (hn:m<n) (hn9:n<=9):
  Calls Tryz.prog 65 #[.int .u64 s,.slice a m c,.int .i64 n] w λe w'=>∃v,e = .returned (.tuple #[v,.int .i64 0])/\w'.ownsRow w.heap.size 70 1 v n ((dl (s :: xs) n).map (Value.int .u64))/\Below w.heap.size w w':=by
 obtain ⟨i0,hi,ap,aq,ar⟩:=info_parts info70;have az:=h.len;go_enter Tryz.func65,Tryz.ntmps65;go_wp2_with (first | (at_builtin;refine wpList_appR Tryz.underlying52 info70 _ rfl _ _ rfl s hs0 hs1 a m c xs h rfl rfl (by omega) ?_;intro a1 c1 w1 au an) | (at_make;refine wpList_make_full _ rfl _ _ 52 rfl w1.heap.size 70 i0 (.int .u64 0) 1 Tryz.underlying52 hi ap aq .i64 .i64 _ _ n rfl rfl (by omega) (by omega) (by rw [ar];omega) (by unfold maxLen;omega) (Nat.le_refl _) ?_;intro w2 aj af));have hs1:=an.size;have ao:Blk w2 w1.heap.size (fil (dlf (s :: xs)) n 0):=by rw [<- fil_zero];exact Blk.made aj
 have ak:Below w1.heap.size w1 w2:=(Below.refl _ _).grown af (Nat.le_refl _) (by simp);have al:Below w.heap.size w w2:=an.trans (ak.mono hs1);clear aj af;go_loopw [32] (λi wr=>∃k:Nat,k<=n/\i = .int .i64 k/\Blk wr w1.heap.size (fil (dlf (s :: xs)) n k)/\Below w1.heap.size w1 wr/\Below w.heap.size w wr) (λi _=>n-(intOf i).toNat)
 case atStart=>exact ⟨0,Nat.zero_le _,rfl,ao,ak,al⟩
 case round=>
  clear ao ak al;obtain ⟨k,hk,rfl,ab,ad,ae⟩:=hrel;by_cases hlt:k<n
  ·have hr:=au.below ad;have HF:Hid (nm (ev (s :: xs) ((k:Int)+1))=dlf (s :: xs) k):=rfl;go_wp2_with fail;refine (cEvalOK _ _ _ _ _ _ hr (by omega) (by omega) (by omega)).mono ?_;rintro e w3 ⟨rfl,ag⟩;rw [HF.out];have aa:=ab.below ag ab.lt;have ay:=aa.cell (i:=k) (by rw [fil_len];exact hlt);have aB:=aa.frozen k;have aA:=aa.lt;have ah:=aa.set k (dlf (s :: xs) k);rw [fil_set rfl] at ah;have am:=btr ad ag;have ai:=btr ae ag;have av:Hid (Below w1.heap.size w1 (w3.setCell ⟨w1.heap.size,k,none⟩ (.int .u64 (dlf (s :: xs) k)))):=am.setCell (Nat.le_refl _) _;have aw:Hid (Below w.heap.size w (w3.setCell ⟨w1.heap.size,k,none⟩ (.int .u64 (dlf (s :: xs) k)))):=ai.setCell hs1 _;clear ad ae ag ab aa am ai hr;go_wp2;go_roundw
   case rel=>exact ⟨k+1,by omega,by go_num,ah,av.out,aw.out⟩
   case measure=>simp [intOf];omega
  ·have ax:k=n:=by omega
   subst ax;have hr:wr.ownsRow w.heap.size 70 1 (.slice (some ⟨w1.heap.size,0,none⟩) k k) k ((dl (s :: xs) k).map (Value.int .u64)):=by
    rw [fil_full] at ab;exact ⟨by rw [List.length_map,dl_len,Nat.mul_one],.inr ⟨_,k,_,rfl,hs1,ab,Nat.le_refl _,by unfold maxLen;omega,by simp,by rw [List.toList_toArray,Nat.mul_one,List.take_of_length_le (by simp)];rfl⟩⟩
   go_wp2;go_ret2;exact ⟨_,rfl,hr,ae⟩
theorem cOpenS (a n c l t w) (h:RdS w a n c l):
  Calls Tryz.prog 109 #[.int .i64 t,.slice a n c] w λe w'=>∃x r,e = .returned (.tuple #[.int .u64 x,.int .i64 r])/\Opn l n t x r/\Below w.heap.size w w':=by
 go_enter Tryz.func109,Tryz.ntmps109;go_wp2_with fail;refine (cCheckS _ _ _ _ _ _ h).mono ?_;rintro e w1 ⟨r,rfl,hS,aa⟩;by_cases hr:r=0
 ·subst hr;have HS:=hid hS;obtain ⟨t0,t4,hd,al,am⟩:=hS.ok;have HD:Hid (okk l n):=dis_okk hd;clear hd hS;go_wp2_with fail;refine (cThroughOK _ _ _ _ _ (h.below aa) (by omega) HD.out).mono ?_;rintro e w2 ⟨S,g,rfl,ae,af,ag,ad,ah⟩;have HO:Hid (_/\_):=opn_newton HS.out ae af ag;have ab:=btr aa ah;have ak:=tl_le S n;obtain ⟨T,hT⟩:∃T,T=tl S n:=⟨_,rfl⟩;rw [<- hT] at ad HO ak ⊢;clear ae af ag aa ah hT;by_cases hlt:(T:Int)<=t+1
  ·have HN:Hid (Opn l n t (nm (ev (trm S) 0)) 0):=HO.out.1 hlt;clear HO;go_wp2_with fail;refine (cEvalOK _ _ _ _ _ _ ad (by omega) (by omega) (by omega)).mono ?_;rintro e w3 ⟨rfl,ai⟩;have aj:=btr ab ai;clear ai ad;go_wp2;go_ret2;exact ⟨_,_,rfl,HN.out,aj⟩
  ·have HN:Hid (Opn l n t 0 6):=HO.out.2 (by omega);clear HO;go_wp2;go_ret2;exact ⟨_,_,rfl,HN.out,ab⟩
 ·have an:(r != 0)=true:=by rw [bne_iff_ne];exact hr
  have HS:Hid (Opn l n t 0 r):=Or.inl ⟨hS,hr,rfl⟩;clear hr hS;go_wp2;go_ret2;exact ⟨_,_,rfl,HS.out,aa⟩
end
end Go.Proofs.YtljlioglpaogdacGreatDoor

/- PlacedC AtsC DigC IntsC FieldC RefA RefC RefPolyC SumC TrimC MapV TRefC NumC TwoC ShortC JoinC CheckC -/
import Derived.Test.YtljlioglpaogdacGreatDoorToTwM
import Derived.Test.YtljlioglpaogdacGreatDoorProg
import Derived.Laws.AppendOwnNone
namespace Go.Proofs.YtljlioglpaogdacGreatDoor
set_option linter.unusedVariables false
set_option maxRecDepth 100000
set_option maxHeartbeats 8000000
section
open Crm Go.RowKit
def Tells (p:Prop) (w:World) (e:Ending) (w':World):Prop:=∃r:Bool,e = .returned (.bool r)/\(r=true↔p)/\Below w.heap.size w w'
theorem Tells.yes {p:Prop} {w:World} {w'} (h:p) (hb:Below w.heap.size w w'):Tells p w (.returned (.bool true)) w':=⟨true,rfl,by simp [h],hb⟩
theorem Tells.no {p:Prop} {w:World} {w'} (h:¬ p) (hb:Below w.heap.size w w'):Tells p w (.returned (.bool false)) w':=⟨false,rfl,by simp [h],hb⟩
theorem cell_alloc0 (w:World) (x y:Value) (t:TypeId):(w.alloc (.cells #[x,y] t)).cell? ⟨w.heap.size,0,none⟩=some x:=by
 rw [cell_of_row _ _ _ #[x,y] t (0,0) (heap_alloc_new w _)];rfl
theorem cell_alloc1 (w:World) (x y:Value) (t:TypeId):(w.alloc (.cells #[x,y] t)).cell? ⟨w.heap.size,1,none⟩=some y:=by
 rw [cell_of_row _ _ _ #[x,y] t (0,0) (heap_alloc_new w _)];rfl
theorem cPlaced (a n c l w) (h:RdS w a n c l) (hn:n<=1000):
  Calls Tryz.prog 185 #[.slice a n c] w λe w'=>Tells (okk l n) w e w':=by
 have aq:=h.len;have ar:=h.cap;have ag:=h.max;unfold maxLen at ag;go_enter Tryz.func185,Tryz.ntmps185;go_wp2;go_loopw [9] (λi wr=>∃k:Nat,k<=n/\i = .int .i64 k/\Hid (okk l k)/\Below w.heap.size w wr) (λi _=>n-(intOf i).toNat)
 case atStart=>exact ⟨0,Nat.zero_le _,rfl,okk_zero l,Below.refl _ _⟩
 case round=>
  obtain ⟨k,hk,rfl,HK,aa⟩:=hrel;obtain ⟨wo,ai⟩:∃wo,wo=wr:=⟨_,rfl⟩;subst ai;have ae:=aa.size;by_cases hlt:k<n
  ·have hR:=h.below aa;obtain ⟨b,o,x,y,rfl,aC,HX,HY,aD,aE,aF,aG,aH,aI⟩:=hR.one hlt;by_cases hx2:x<1
   ·have HN:Hid (¬ okk l n):=λhk=>by have:=(hk k hlt).1.1;rw [HX.out] at this;omega
    go_wp2;go_ret;exact .no HN.out (aa.alloc ae _)
   ·by_cases hx3:2147483647<=x
    ·have HN:Hid (¬ okk l n):=λhk=>by have:=(hk k hlt).1.2;rw [HX.out] at this;omega
     go_wp2;go_ret;exact .no HN.out (aa.alloc ae _)
    ·go_wp2;go_loopw [27] (λi wr=>∃m:Nat,m<=k/\i = .int .i64 m/\Hid (∀j,j<m->(l.getD j (0,0)).1≠x)/\Below (wo.heap.size+1) (wo.alloc (.cells #[.int .i64 x,.int .u64 y] 74)) wr) (λi _=>k-(intOf i).toNat)
     case atStart=>exact ⟨0,Nat.zero_le _,rfl,λj hj=>by omega,Below.refl _ _⟩
     case round=>
      obtain ⟨m,hm,rfl,HM,ab⟩:=hrel;have ad:Below w.heap.size w wr:=(aa.alloc ae _).trans (ab.mono (by omega));have aj:=ad.size;have aJ:wo.heap.size+1<=wr.heap.size:=by have:=ab.size;simp at this;omega
      have ak:wr.cell? ⟨wo.heap.size,0,none⟩=some (.int .i64 x):=by rw [ab.cell (by simp)];exact cell_alloc0 _ _ _ _
      have au:∀ob:Obj,(wr.alloc ob).cell? ⟨wo.heap.size,0,none⟩=some (.int .i64 x):=λob=>by
       rw [World.cell?_of_block (w:=wr) (Below.heap_alloc _ _ _ (by simp only;omega))];exact ak
      by_cases hmk:m<k
      ·have al:=h.below ad;obtain ⟨b',o',x',y',e',av,af,aK,aw,ax,ay,az,aA,aB⟩:=al.one (show m<n by omega);simp only [Option.some.injEq,Addr.mk.injEq,and_true] at e';obtain ⟨rfl,rfl⟩:=e';by_cases hxx:x'=x
       ·have HN:Hid (¬ okk l n):=λhk=>(hk k hlt).2 m hmk (by rw [af.out,HX.out];exact hxx);have am:(x'==x)=true:=by rw [beq_iff_eq];exact hxx
        clear hxx;go_wp2;go_ret;exact .no HN.out (ad.alloc aj _)
       ·have am:(x'==x)=false:=by rw [beq_eq_false_iff_ne];exact hxx
        have an:Hid (∀j,j<m+1->(l.getD j (0,0)).1≠x):=λj hj=>by
         by_cases e:j=m
         ·rw [e,af.out];exact hxx
         ·exact HM.out j (by omega)
        clear hxx;go_wp2;go_roundw
        case rel=>exact ⟨m+1,by omega,by go_num,an,ab.alloc (by omega) _⟩
        case measure=>simp [intOf];omega
      ·have ah:m=k:=by omega
       subst ah;have ao:Hid (okk l (m+1)):=okk_succ HK.out HX.out (by omega) (by omega) HM.out;go_wp2;go_roundw
       case rel=>exact ⟨m+1,by omega,by go_num,ao,ad⟩
       case measure=>simp [intOf];omega
  ·have ap:k=n:=by omega
   subst ap;go_wp2;go_ret;exact .yes HK.out aa
theorem rInY (n lo hi:Int) (w) (h1:lo<=n) (h2:n<=hi):
  Calls Tryz.prog 35 #[.int .i64 n,.int .i64 lo,.int .i64 hi] w λe w'=>e = .returned (.bool true)/\w'=w:=by
 go_enter Tryz.func35,Tryz.ntmps35;go_wp2;go_ret;exact ⟨rfl,rfl⟩
theorem rInN (n lo hi:Int) (w) (h:n<lo\/hi<n):
  Calls Tryz.prog 35 #[.int .i64 n,.int .i64 lo,.int .i64 hi] w λe w'=>e = .returned (.bool false)/\w'=w:=by
 by_cases h1:n<lo
 ·clear h;go_enter Tryz.func35,Tryz.ntmps35;go_wp2;go_ret;exact ⟨rfl,rfl⟩
 ·have h2:hi<n:=by omega
  have hd:decide (n<=hi)=false:=by simp;omega
  clear h;go_enter Tryz.func35,Tryz.ntmps35;go_wp2;go_ret;exact ⟨rfl,rfl⟩
def bt (s:ByteArray) (i:Nat):Int:=((s.get! i).toNat:Int)
theorem bt_bd (s:ByteArray) (i:Nat):0<=bt s i/\bt s i<=255:=by
 have:=(s.get! i).toNat_lt;unfold bt;omega
theorem bt_get (s:ByteArray) {i:Nat} (h:i<s.size):((s[i]'h).toNat:Int)=bt s i:=by
 unfold bt;have:s.get! i=s[i]'h:=getElem!_pos s.data i h;rw [this]
theorem bt_run {P:Program} {t:TypeId} (ht:P.underlying t=some .string) (s:ByteArray) {i:Nat} (h:i<s.size) (w:World):(Instr.index t (.string s) (.int .i64 (i:Int))).run P w = .ok (.int .u8 (bt s i)) w:=by
 rw [run_index_string w t s .i64 (i:Int) ht,dif_pos ⟨by omega,by omega⟩];simp only [Int.toNat_natCast];rw [bt_get s h]
def dgn (s:ByteArray):Nat->Int
 | 0=>0
 | k+1=>dgn s k*10+bt s k-48
def dgs (s:ByteArray) (k:Nat):Prop:=∀i,i<k->48<=bt s i/\bt s i<=57
theorem dgs_zero (s:ByteArray):dgs s 0:=λi hi=>by omega
theorem dgs_succ {s k} (h:dgs s k) (h0:48<=bt s k) (h1:bt s k<=57):dgs s (k+1):=λi hi=>by
 by_cases e:i=k
 ·rw [e];exact ⟨h0,h1⟩
 ·exact h i (by omega)
theorem dgs_not {s:ByteArray} {k m:Nat} (hk:k<m) (h:bt s k<48\/57<bt s k):¬ dgs s m:=λe=>by
 have:=e k hk
 omega
theorem dgn_bd {s:ByteArray}:∀{k:Nat},dgs s k->0<=dgn s k/\dgn s k<10 ^ k
 | 0,_=>by simp [dgn]
 | k+1,h=>by
  have h1:=dgn_bd (k:=k) λi hi=>h i (by omega)
  have h2:=h k (by omega)
  rw [dgn,Int.pow_succ]
  omega
theorem ten_le {k:Nat} (h:k<=10):(10:Int) ^ k<=10000000000:=by
 have:k=0\/k=1\/k=2\/k=3\/k=4\/k=5\/k=6\/k=7\/k=8\/k=9\/k=10:=by omega
 rcases this with rfl | rfl | rfl | rfl | rfl | rfl | rfl | rfl | rfl | rfl | rfl <;> decide
def okd (s:ByteArray):Prop:=(1<=s.size/\s.size<=10)/\dgs s s.size/\¬ (1<s.size/\bt s 0=48)
def Dgt (s:ByteArray) (r:Int):Prop:=(okd s/\r=dgn s s.size)\/(¬ okd s/\r = -1)
theorem Dgt.one {s r q} (h:Dgt s r) (k:Dgt s q):r=q:=by
 rcases h with ⟨h1,rfl⟩ | ⟨h1,rfl⟩ <;> rcases k with ⟨k1,rfl⟩ | ⟨k1,rfl⟩
 ·rfl
 ·exact absurd h1 k1
 ·exact absurd k1 h1
 ·rfl
theorem Dgt.bd {s r} (h:Dgt s r): -1<=r/\r<=9999999999:=by
 rcases h with ⟨h1,rfl⟩ | ⟨h1,rfl⟩
 ·have:=dgn_bd h1.2.1;have:=ten_le h1.1.2;omega
 ·omega
theorem rDigits (s:ByteArray) (w) (hs:s.size<=9223372036854775807):
  Calls Tryz.prog 71 #[.string s] w λe w'=>∃r,e = .returned (.int .i64 r)/\Dgt s r/\w'=w:=by
 go_enter Tryz.func71,Tryz.ntmps71;go_wp2;go_loopw [3,4] (λv i wr=>∃k:Nat,k<=s.size/\k<=11/\i = .int .i64 k/\v = .int .i64 (dgn s k)/\Hid (dgs s k)/\wr=w) (λ_ i _=>11-(intOf i).toNat)
 case atStart=>exact ⟨0,Nat.zero_le _,by omega,rfl,rfl,dgs_zero s,rfl⟩
 case round=>
  obtain ⟨k,hk,af,rfl,rfl,HD,rfl⟩:=hrel;by_cases hlt:k<s.size
  ·by_cases hkl:k<11
   ·obtain ⟨x,HX⟩:=nmd (bt s k);have hx:=bt_bd s k;have aa:=λw=>bt_run (P:=Tryz.prog) Tryz.underlying9 s hlt w;rw [HX.out] at hx aa;have hd:=dgn_bd HD.out;have ht:=ten_le (k:=k) (by omega);obtain ⟨d,Hd⟩:=nmd (dgn s k);rw [Hd.out] at hd ⊢;have ag:d<=9999999999:=by omega
    have ah:=hd.1;clear hd ht;have HN:Hid (x<48\/57<x->Dgt s (-1)):=λe=>.inr ⟨λo=>dgs_not hlt (by rw [HX.out];exact e) o.2.1,rfl⟩;by_cases hlo:x<48
    ·go_wp2;go_ret;exact ⟨_,rfl,HN.out (.inl hlo),rfl⟩
    ·by_cases hhi:57<x
     ·go_wp2;go_ret;exact ⟨_,rfl,HN.out (.inr hhi),rfl⟩
     ·have ae:Hid (dgs s (k+1)):=dgs_succ HD.out (by rw [HX.out];omega) (by rw [HX.out];omega);have HV:Hid (dgn s (k+1)=d*10+x-48):=by unfold Hid;rw [dgn,Hd.out,HX.out]
      have ai:IntKind.i64.wrap x=x:=by rw [IntKind.wrap_i64];omega
      go_wp2;go_roundw
      case rel=>exact ⟨k+1,by omega,by omega,by go_num,by rw [HV.out],ae,trivial⟩
      case measure=>simp [intOf];omega
   ·have HN:Hid (Dgt s (-1)):=.inr ⟨λo=>by have:=o.1;omega,rfl⟩;have ad:k=11:=by omega
    subst ad;go_wp2_with (go_at_call 35;refine (rInN _ _ _ _ (by omega)).mono ?_;rintro e w' ⟨rfl,hw⟩;have hw:=hw.symm;subst hw);go_ret;exact ⟨_,rfl,HN.out,rfl⟩
  ·have ab:k=s.size:=by omega
   have aj:¬ ((k:Int)<(s.size:Int)):=by omega
   by_cases hr:1<=s.size/\s.size<=10
   ·by_cases h1:1<s.size
    ·obtain ⟨x,HX⟩:=nmd (bt s 0);have hx:=bt_bd s 0;have aa:=λw=>bt_run (P:=Tryz.prog) Tryz.underlying9 s (i:=0) (by omega) w;rw [HX.out] at hx aa;simp only [Int.natCast_zero] at aa;by_cases h48:x=48
     ·have HN:Hid (Dgt s (-1)):=.inr ⟨λo=>o.2.2 ⟨h1,by rw [HX.out];exact h48⟩,rfl⟩;subst h48;go_wp2_with (go_at_call 35;refine (rInY _ _ _ _ (by omega) (by omega)).mono ?_;rintro e w' ⟨rfl,hw⟩;have hw:=hw.symm;subst hw);go_ret;exact ⟨_,rfl,HN.out,rfl⟩
     ·have HN:Hid (Dgt s (dgn s s.size)):=.inl ⟨⟨hr,by rw [<- ab];exact HD.out,λe=>h48 (by rw [<- HX.out];exact e.2)⟩,rfl⟩;have ak:(x==48)=false:=by rw [beq_eq_false_iff_ne];exact h48
      clear h48;go_wp2_with (go_at_call 35;refine (rInY _ _ _ _ (by omega) (by omega)).mono ?_;rintro e w' ⟨rfl,hw⟩;have hw:=hw.symm;subst hw);go_ret;exact ⟨_,rfl,HN.out,rfl⟩
    ·have HN:Hid (Dgt s (dgn s s.size)):=.inl ⟨⟨hr,by rw [<- ab];exact HD.out,λe=>h1 e.1⟩,rfl⟩;go_wp2_with (go_at_call 35;refine (rInY _ _ _ _ (by omega) (by omega)).mono ?_;rintro e w' ⟨rfl,hw⟩;have hw:=hw.symm;subst hw);go_ret;exact ⟨_,rfl,HN.out,rfl⟩
   ·have HN:Hid (Dgt s (-1)):=.inr ⟨λo=>hr o.1,rfl⟩;go_wp2_with (go_at_call 35;refine (rInN _ _ _ _ (by omega)).mono ?_;rintro e w' ⟨rfl,hw⟩;have hw:=hw.symm;subst hw);go_ret;exact ⟨_,rfl,HN.out,rfl⟩
structure RdI (w:World) (a:Option Addr) (n c:Nat) (xs:List Int):Prop where
 len:xs.length=n
 cap:n<=c
 max:c<=maxLen
 bd:∀x ∈ xs,-9223372036854775808<=x/\x<=9223372036854775807
 nil:a=none->c=0
 cell:∀x,a=some x->∀i,i<n->w.cell? (x.add i)=some (.int .i64 (xs.getD i 0))
theorem RdI.one {w a n c xs} (h:RdI w a n c xs) {k:Nat} (hk:k<n):
  ∃b o x,a=some ⟨b,o,none⟩/\b<w.heap.size/\Hid (xs.getD k 0=x)/\-9223372036854775808<=x/\x<=9223372036854775807/\w.cell? ⟨b,o+k,none⟩=some (.int .i64 x):=by
 cases ha:a with
 | none=>have:=h.nil ha;have:=h.cap;omega
 | some x=>
  have h0:=h.cell x ha k hk;have hs:x.spot=none:=by
   have:=spot_none (h.cell x ha 0 (by omega));unfold Addr.add at this;split at this <;> simp_all
  obtain ⟨b,o,s⟩:=x;simp only at hs;subst hs;rw [Addr.add_lit] at h0;have hb:=h.bd (xs.getD k 0) (getD_mem (by rw [h.len];exact hk));exact ⟨b,o,_,rfl,World.block_lt_of_cell? w _ h0,rfl,hb.1,hb.2,h0⟩
theorem RdI.below {w w' a n c xs} (h:RdI w a n c xs) (hb:Below w.heap.size w w'):RdI w' a n c xs:=by
 refine ⟨h.len,h.cap,h.max,h.bd,h.nil,λx hx i hi=>?_⟩
 have:=h.cell x hx i hi;rw [hb.cell (World.block_lt_of_cell? w _ this)];exact this
def shc (l:List (Int×Int)):List Value:=l.flatMap λp=>[.int .i64 p.1,.int .u64 p.2]
theorem shc_snoc (l:List (Int×Int)) (p:Int×Int):shc (l ++ [p])=shc l ++ [.int .i64 p.1,.int .u64 p.2]:=by simp [shc]
theorem shc_get:∀(l:List (Int×Int)) (i:Nat),i<l.length->(shc l)[i*2]? = some (.int .i64 (l.getD i (0,0)).1)/\(shc l)[i*2+1]? = some (.int .u64 (l.getD i (0,0)).2)
 | [],i,h=>by simp at h
 | p :: l,0,_=>⟨rfl,rfl⟩
 | p :: l,i+1,h=>by
  have:=shc_get l i (by simpa using h)
  have e1:(i+1)*2=i*2+1+1:=by omega
  rw [e1]
  exact this
theorem shc_len (l:List (Int×Int)):(shc l).length=l.length*2:=by
 induction l with
 | nil=>rfl
 | cons a l ih=>simp [shc] at ih ⊢;omega
theorem shc_app (l k:List (Int×Int)):shc (l++k)=shc l++shc k:=by simp [shc]
theorem shc_one (l:List (Int×Int)):∀u ∈ shc l,u.oneCell'=true:=λu hu=>by
 unfold shc at hu
 obtain ⟨p,_,hp⟩:=List.mem_flatMap.1 hu
 simp at hp
 rcases hp with rfl | rfl <;> rfl
theorem wpList_appS {P:Program} {T E:TypeId} (hT:P.underlying T=some (.slice E)) (info:(P.info? E).map (λi=>(i.zero,i.size,i.bytes))=some (some (.agg #[.int .i64 0,.int .u64 0]),2,16)) (w:World) {ops:Array Oper} {rest:List Oper} {o:Oper} {a:Act} {Q:Exit->Act->World->Prop} (hgd:o.guard=none) (s x:Operand) (ho:o.op = .call { callee:=.builtin .append,args:=#[s,x],argTypes:=#[T,T] }) (base:Nat) (v:Value) (n:Nat) (l:List (Int×Int)) (hs:a.eval s=v) (hown:w.ownsRow base E 2 v n (shc l)) (p q:Int) (hx:a.eval x = .slice (some ⟨w.heap.size,0,none⟩) 1 1) (hn:n<=1000000) (hbase:base<=w.heap.size) (h:∀v' w',w'.ownsRow base E 2 v' (n+1) (shc (l ++ [(p,q)]))->Below base w w'->wpList P ops Q rest (a.put o.dst v') w'):wpList P ops Q (o :: rest) a (w.alloc (.cells #[.int .i64 p,.int .u64 q] E)):=by
 obtain ⟨i0,hi,ad,ae,af⟩:=info_parts info;refine wpList_append_own _ hgd s x T ho base E i0 (.agg #[.int .i64 0,.int .u64 0]) 2 16 hT hi ad ae af rfl (by decide) v n _ hs (hown.alloc _) ⟨w.heap.size,0,none⟩ 1 1 [.int .i64 p,.int .u64 q] hx rfl ?_ ?_ (by unfold maxLen;omega) (by omega) (by simp;omega) ?_
 ·intro j u hj;match j,hj with
  | 0,hj=>simp at hj;subst hj;rw [Addr.add_lit];exact cell_alloc0 _ _ _ _
  | 1,hj=>simp at hj;subst hj;rw [Addr.add_lit];exact cell_alloc1 _ _ _ _
 ·intro u hu;simp at hu;rcases hu with rfl | rfl <;> rfl
 ·intro v' w' aa ab _;refine h v' w' (by rw [shc_snoc];exact aa) ?_;exact ((Below.refl _ _).alloc hbase _).grown ab (by simp;omega) (λk hk=>(hown.lt k hk).1)
theorem RdS.own {w:World} {base n:Nat} {E:TypeId} {v:Value} {l:List (Int×Int)} (h:w.ownsRow base E 2 v n (shc l)) (hl:l.length=n) (hb:∀i,i<n->(-9223372036854775808<=(l.getD i (0,0)).1/\(l.getD i (0,0)).1<=9223372036854775807)/\0<=(l.getD i (0,0)).2/\(l.getD i (0,0)).2<=18446744073709551615):∃a c,v = .slice a n c/\RdS w a n c l:=by
 rcases h.2 with ⟨rfl,rfl⟩ | ⟨g,aa,ab,rfl,ad,hg,h1,h2,hs,ht⟩
 ·exact ⟨none,0,rfl,⟨hl,Nat.le_refl _,Nat.zero_le _,hb,λ_=>rfl,by simp⟩⟩
 ·refine ⟨_,_,rfl,⟨hl,h1,h2,hb,by simp,λx hx i hi=>?_⟩⟩
  obtain rfl:=Option.some.inj hx;have:=shc_get l i (by omega);exact ⟨h.cells (g:=g) rfl _ _ this.1,h.cells (g:=g) rfl _ _ this.2⟩
def u64of (x:Int):Int:=IntKind.u64.wrap x
theorem u64of_id {x:Int} (h0:1<=x) (h1:x<=2147483646):u64of x=x:=by
 unfold u64of IntKind.wrap;simp [IntKind.signed,IntKind.bits];omega
theorem infoSh:(Tryz.prog.info? 74).map (λi=>(i.zero,i.size,i.bytes))=some (some (.agg #[.int .i64 0,.int .u64 0]),2,16):=by kernel_rfl
theorem infoZ:(Tryz.prog.info? 3).map (λi=>(i.zero,i.size,i.bytes))=some (some (.int .i64 0),1,8):=by kernel_rfl
theorem RdI.own {w:World} {base n:Nat} {E:TypeId} {v:Value} {L:List Int} (h:w.ownsRow base E 1 v n (zns L)) (hb:∀x ∈ L,-9223372036854775808<=x/\x<=9223372036854775807):∃a c,v = .slice a n c/\RdI w a n c L:=by
 have hl:L.length=n:=by have:=h.1;rw [zns_len] at this;omega
 rcases h.2 with ⟨rfl,rfl⟩ | ⟨g,aa,ab,rfl,ad,hg,h1,h2,hs,ht⟩
 ·exact ⟨none,0,rfl,⟨hl,Nat.le_refl _,Nat.zero_le _,hb,λ_=>rfl,by simp⟩⟩
 ·refine ⟨_,_,rfl,⟨hl,h1,h2,hb,by simp,λx hx i hi=>?_⟩⟩
  obtain rfl:=Option.some.inj hx;rw [Addr.add_lit,Nat.zero_add];exact zns_at h hi
theorem fNorm (a:Int) (w) (h0:0<=a) (h1:a<=18446744073709551615):
  Calls Tryz.prog 143 #[.int .u64 a] w λe w'=>e = .returned (.int .u64 (nm a))/\w'=w:=by
 go_enter Tryz.func143,Tryz.ntmps143;go_wp2;go_ret;exact ⟨rfl,rfl⟩
theorem fAdd (a b:Int) (w) (h0:0<=a) (h1:a<=18446744073709551615) (g0:0<=b) (g1:b<=18446744073709551615):
  Calls Tryz.prog 148 #[.int .u64 a,.int .u64 b] w λe w'=>e = .returned (.int .u64 (nm (a+b)))/\w'=w:=by
 have ha:=nm_bd a;have hb:=nm_bd b;have HN:Hid (nm (a+b)=nm (nm a+nm b)):=by rw [nm_addl,nm_addr];exact rfl
 go_enter Tryz.func148,Tryz.ntmps148;go_wp2_with (go_at_call 143;refine (fNorm _ _ (by omega) (by omega)).mono ?_;rintro e w' ⟨rfl,rfl⟩);go_ret;rw [HN.out];exact ⟨rfl,rfl⟩
theorem fSub (a b:Int) (w) (h0:0<=a) (h1:a<=18446744073709551615) (g0:0<=b) (g1:b<=18446744073709551615):
  Calls Tryz.prog 158 #[.int .u64 a,.int .u64 b] w λe w'=>e = .returned (.int .u64 (nm (a-b)))/\w'=w:=by
 have ha:=nm_bd a;have hb:=nm_bd b;have HN:Hid (nm (a-b)=nm (nm a+2147483647-nm b)):=by unfold nm Hid;omega
 go_enter Tryz.func158,Tryz.ntmps158;go_wp2_with (go_at_call 143;refine (fNorm _ _ (by omega) (by omega)).mono ?_;rintro e w' ⟨rfl,rfl⟩);go_ret;rw [HN.out];exact ⟨rfl,rfl⟩
theorem mul_bd {x y:Int} (hx:0<=x/\x<=2147483646) (hy:0<=y/\y<=2147483646):0<=x*y/\x*y<=4611686009837453316:=
 ⟨Int.mul_nonneg hx.1 hy.1,by have:=Int.mul_le_mul hx.2 hy.2 hy.1 (by omega:(0:Int)<=2147483646);omega⟩
theorem fMul (a b:Int) (w) (h0:0<=a) (h1:a<=18446744073709551615) (g0:0<=b) (g1:b<=18446744073709551615):
  Calls Tryz.prog 149 #[.int .u64 a,.int .u64 b] w λe w'=>e = .returned (.int .u64 (nm (a*b)))/\w'=w:=by
 have ha:=nm_bd a;have hb:=nm_bd b;have hm:=mul_bd ha hb;have HN:Hid (nm (a*b)=nm (nm a*nm b)):=by rw [nm_mull,nm_mulr];exact rfl
 go_enter Tryz.func149,Tryz.ntmps149;go_wp2_with (go_at_call 143;refine (fNorm _ _ (by omega) (by omega)).mono ?_;rintro e w' ⟨rfl,rfl⟩);go_ret;rw [HN.out];exact ⟨rfl,rfl⟩
theorem fPow (a n:Int) (w) (h0:0<=a) (h1:a<=18446744073709551615) (g0:0<=n) (g1:n<=18446744073709551615):
  Calls Tryz.prog 207 #[.int .u64 a,.int .u64 n] w λe w'=>e = .returned (.int .u64 (pw a n.toNat))/\w'=w:=by
 have ha:=nm_bd a;go_enter Tryz.func207,Tryz.ntmps207;go_wp2_with (go_at_call 143;refine (fNorm _ _ (by omega) (by omega)).mono ?_;rintro e w' ⟨rfl,rfl⟩);go_loop [1,5,6] (λvn vp vs=>∃(m:Nat) (p s:Int),vn = .int .u64 m/\vp = .int .u64 p/\vs = .int .u64 s/\(m:Int)<=18446744073709551615/\(0<=p/\p<=2147483646)/\(0<=s/\s<=2147483646)/\nm (p*pw s m)=pw a n.toNat) (λvn _ _=>(intOf vn).toNat)
 case atStart=>
  obtain ⟨k,rfl⟩:=Int.eq_ofNat_of_zero_le g0;exact ⟨k,1,nm a,rfl,rfl,rfl,g1,by omega,ha,by rw [Int.one_mul,pw_nm,Int.toNat_natCast];exact nm_nm _⟩
 case round=>
  obtain ⟨m,p,s,rfl,rfl,rfl,hm,hp,hs,hr⟩:=hrel;have HR:=hid hr;clear hr;have af:=mul_bd hp hs;have ag:=mul_bd hs hs;have ae:=nm_bd (p*s);have ad:=nm_bd (s*s);have aa:=and_one_u64 m (by omega) hm;by_cases hlt:0<m
  ·by_cases hb:m%2=1
   ·have ab:(bits BinOp.and IntKind.u64 (m:Int) 1==1)=true:=by rw [aa,beq_iff_eq];omega
    clear aa;have HB:=hid hb;clear hb;go_wp2_with (go_at_call 149;refine (fMul _ _ _ (by omega) (by omega) (by omega) (by omega)).mono ?_;rintro e w' ⟨rfl,rfl⟩);go_round
    case rel=>exact ⟨m/2,_,_,rfl,rfl,rfl,by omega,ae,ad,by rw [low1 p s m HB.out];exact HR.out⟩
    case measure=>simp [intOf];omega
   ·have ab:(bits BinOp.and IntKind.u64 (m:Int) 1==1)=false:=by rw [aa,beq_eq_false_iff_ne];omega
    clear aa;have HB:Hid (m%2=0):=by unfold Hid;omega
    clear hb;go_wp2_with (go_at_call 149;refine (fMul _ _ _ (by omega) (by omega) (by omega) (by omega)).mono ?_;rintro e w' ⟨rfl,rfl⟩);go_round
    case rel=>exact ⟨m/2,_,_,rfl,rfl,rfl,by omega,hp,ad,by rw [low0 p s m HB.out];exact HR.out⟩
    case measure=>simp [intOf];omega
  ·have HM:Hid (m=0):=by unfold Hid;omega
   clear aa;go_wp2;go_ret;have h:=HR.out;rw [HM.out,pw_zero,Int.mul_one,nm_small hp.1 hp.2] at h;rw [h];exact ⟨rfl,rfl⟩
theorem fInv0 (a:Int) (w) (h0:0<=a) (h1:a<=18446744073709551615) (hz:nm a=0):
  Calls Tryz.prog 186 #[.int .u64 a] w λe w'=>e = .returned (.tuple #[.int .u64 0,.int .i64 1])/\w'=w:=by
 go_enter Tryz.func186,Tryz.ntmps186;go_wp2_with (go_at_call 143;refine (fNorm _ _ (by omega) (by omega)).mono ?_;rintro e w' ⟨rfl,rfl⟩);go_ret2;exact ⟨rfl,rfl⟩
theorem fInv1 (a:Int) (w) (h0:0<=a) (h1:a<=18446744073709551615) (hz:nm a≠0):
  Calls Tryz.prog 186 #[.int .u64 a] w λe w'=>e = .returned (.tuple #[.int .u64 (iv a),.int .i64 0])/\w'=w:=by
 have aa:(nm a==0)=false:=by rw [beq_eq_false_iff_ne];exact hz
 go_enter Tryz.func186,Tryz.ntmps186;go_wp2_with (first | (go_at_call 143;refine (fNorm _ _ (by omega) (by omega)).mono ?_;rintro e w' ⟨rfl,rfl⟩) | (go_at_call 207;refine (fPow _ _ _ (by omega) (by omega) (by omega) (by omega)).mono ?_;rintro e w' ⟨rfl,rfl⟩));go_ret2;exact ⟨rfl,rfl⟩
theorem rNorm (a:Int) (w) (h0:0<=a) (h1:a<=18446744073709551615):
  Calls Tryz.prog 76 #[.int .u64 a] w λe w'=>e = .returned (.int .u64 (nm a))/\w'=w:=by
 have HN:Hid (nm a=a-a/2147483647*2147483647):=by unfold nm Hid;omega
 go_enter Tryz.func76,Tryz.ntmps76;go_wp2;go_ret;rw [HN.out];exact ⟨rfl,rfl⟩
theorem rAdd (a b:Int) (w) (h0:0<=a) (h1:a<=18446744073709551615) (g0:0<=b) (g1:b<=18446744073709551615):
  Calls Tryz.prog 159 #[.int .u64 a,.int .u64 b] w λe w'=>e = .returned (.int .u64 (nm (a+b)))/\w'=w:=by
 have ha:=nm_bd a;have hb:=nm_bd b;have HN:Hid (nm (a+b)=nm (nm a+nm b)):=by rw [nm_addl,nm_addr];exact rfl
 go_enter Tryz.func159,Tryz.ntmps159;go_wp2_with (go_at_call 76;refine (rNorm _ _ (by omega) (by omega)).mono ?_;rintro e w' ⟨rfl,rfl⟩);go_ret;rw [HN.out];exact ⟨rfl,rfl⟩
theorem rMul (a b:Int) (w) (h0:0<=a) (h1:a<=18446744073709551615) (g0:0<=b) (g1:b<=18446744073709551615):
  Calls Tryz.prog 160 #[.int .u64 a,.int .u64 b] w λe w'=>e = .returned (.int .u64 (nm (a*b)))/\w'=w:=by
 have ha:=nm_bd a;have hb:=nm_bd b;have HE:Hid (nm (a*b)=nm (nm a*nm b)):=by rw [nm_mull,nm_mulr];exact rfl
 go_enter Tryz.func160,Tryz.ntmps160;go_wp2_with (go_at_call 76;refine (rNorm _ _ (by omega) (by omega)).mono ?_;rintro e w' ⟨rfl,rfl⟩);go_loop [5,6] (λout i=>∃(k:Nat) (o:Int),k<=31/\i = .int .i64 ((k:Int)-1)/\out = .int .u64 o/\o=nm (nm a*(nm b/2 ^ k))) (λ_ i=>(intOf i+1).toNat)
 case atStart=>
  refine ⟨31,0,by omega,rfl,rfl,?_⟩
  have:nm b/2 ^ 31=0:=by omega
  rw [this,Int.mul_zero];rfl
 case round=>
  obtain ⟨k,o,hk,rfl,rfl,hr⟩:=hrel;have ho:0<=o/\o<=2147483646:=by rw [hr];exact nm_bd _
  have HR:=hid hr;clear hr;have ae:=nm_bd (o+o);have ad:=nm_bd (nm (o+o)+nm a);by_cases hlt:0<k
  ·have hq:0<=nm b/2 ^ (k-1):=Int.ediv_nonneg hb.1 (Int.le_of_lt (Int.pow_pos (by omega)));have aa:Hid (o=nm (nm a*(nm b/2 ^ ((k-1)+1)))):=by rw [Nat.sub_add_cancel hlt];exact HR
   by_cases hbit:(nm b/2 ^ (k-1))%2=1
   ·have ab:((nm b/2 ^ (k-1))%2==1)=true:=by rw [beq_iff_eq];exact hbit
    have HB:Hid (nm (nm (o+o)+nm a)=nm (nm a*(nm b/2 ^ (k-1)))):=mul_bit1 _ _ _ hbit o aa.out;clear hbit;go_wp2_with (go_at_call 76;refine (rNorm _ _ (by omega) (by omega)).mono ?_;rintro e w' ⟨rfl,rfl⟩);go_round
    case rel=>exact ⟨k-1,_,by omega,by go_num,rfl,HB.out⟩
    case measure=>simp [intOf];omega
   ·have ab:((nm b/2 ^ (k-1))%2==1)=false:=by rw [beq_eq_false_iff_ne];exact hbit
    have HB:Hid (nm (o+o)=nm (nm a*(nm b/2 ^ (k-1)))):=mul_bit0 _ _ _ (by omega) o aa.out;clear hbit;go_wp2_with (go_at_call 76;refine (rNorm _ _ (by omega) (by omega)).mono ?_;rintro e w' ⟨rfl,rfl⟩);go_round
    case rel=>exact ⟨k-1,_,by omega,by go_num,rfl,HB.out⟩
    case measure=>simp [intOf];omega
  ·have HM:Hid (k=0):=by unfold Hid;omega
   go_wp2;go_ret;have h:=HR.out;rw [HM.out,Int.pow_zero,Int.ediv_one,<- HE.out] at h;rw [h];exact ⟨rfl,rfl⟩
theorem rNeg (a:Int) (w) (h0:0<=a) (h1:a<=18446744073709551615):
  Calls Tryz.prog 163 #[.int .u64 a] w λe w'=>e = .returned (.int .u64 (nm (-a)))/\w'=w:=by
 have ha:=nm_bd a;have HN:Hid (nm (-a)=nm (2147483647-nm a)):=by unfold nm Hid;omega
 go_enter Tryz.func163,Tryz.ntmps163;go_wp2_with (go_at_call 76;refine (rNorm _ _ (by omega) (by omega)).mono ?_;rintro e w' ⟨rfl,rfl⟩);go_ret;rw [HN.out];exact ⟨rfl,rfl⟩
theorem rInv (a:Int) (w) (h0:0<=a) (h1:a<=18446744073709551615) (hz:nm a≠0):
  Calls Tryz.prog 193 #[.int .u64 a] w λe w'=>e = .returned (.int .u64 (iv a))/\w'=w:=by
 have ha:=nm_bd a;have HZ:=hid hz;clear hz;go_enter Tryz.func193,Tryz.ntmps193;go_wp2_with (go_at_call 76;refine (rNorm _ _ (by omega) (by omega)).mono ?_;rintro e w' ⟨rfl,rfl⟩);go_loop [3,4,5,6] (λvr vn vx vt=>∃r n x t:Int,vr = .int .u64 r/\vn = .int .u64 n/\vx = .int .u64 x/\vt = .int .u64 t/\(0<=r/\r<=2147483647)/\(0<=n/\n<=2147483647)/\(0<=x/\x<=2147483646)/\(0<=t/\t<=2147483646)/\nm (x*a)=nm r/\nm (t*a)=nm n/\Nat.gcd r.toNat n.toNat=1) (λ_ vn _ _=>(intOf vn).toNat)
 case atStart=>
  refine ⟨2147483647,nm a,0,1,rfl,rfl,rfl,rfl,by omega,by omega,by omega,by omega,?_,?_,cop_int HZ.out⟩
  ·rw [Int.zero_mul];rfl
  ·rw [Int.one_mul,nm_nm]
 case round=>
  obtain ⟨r,n,x,t,rfl,rfl,rfl,rfl,hr,hn,hx,ht,e1,e2,e3⟩:=hrel;by_cases hlt:0<n
  ·obtain ⟨b1,b2,b3,b4,b5,b6⟩:=eu_bd hr.1 hlt;have HG:Hid (Nat.gcd n.toNat (r-r/n*n).toNat=1):=eu_gcd hr.1 hlt e3;have HT:Hid (nm (nm (x-r/n*t)*a)=nm (r-r/n*n)):=eu_step e1 e2;have HE:Hid (nm (x+nm (-nm (r/n*t)))=nm (x-r/n*t)):=by unfold Hid;rw [nm_addr];generalize r/n*t=y;unfold nm;omega
   have H2:=hid e2;clear e1 e2 e3;have c1:=nm_bd (r/n*t);have c2:=nm_bd (-nm (r/n*t));have c3:=nm_bd (x+nm (-nm (r/n*t)));have aa:(n != 0)=true:=by rw [bne_iff_ne];omega
   go_wp2_with (first | (go_at_call 160;refine (rMul _ _ _ (by omega) (by omega) (by omega) (by omega)).mono ?_;rintro e w' ⟨rfl,rfl⟩) | (go_at_call 163;refine (rNeg _ _ (by omega) (by omega)).mono ?_;rintro e w' ⟨rfl,rfl⟩) | (go_at_call 159;refine (rAdd _ _ _ (by omega) (by omega) (by omega) (by omega)).mono ?_;rintro e w' ⟨rfl,rfl⟩));go_round
   case rel=>exact ⟨n,r-r/n*n,t,nm (x+nm (-nm (r/n*t))),rfl,rfl,rfl,rfl,by omega,by omega,ht,c3,H2.out,by rw [HE.out];exact HT.out,HG.out⟩
   case measure=>simp [intOf];omega
  ·have HM:Hid (n=0):=by unfold Hid;omega
   have H1:=hid e1;have H3:=hid e3;clear e1 e2 e3;have aa:(n != 0)=false:=by have:=HM.out;rw [this];rfl
   go_wp2;go_ret;have h3:=H3.out;rw [HM.out] at h3;rw [eu_end h3 hr.1 H1.out hx.1 hx.2];exact ⟨rfl,rfl⟩
theorem infoR70:(Tryz.prog.info? 70).map (λi=>(i.zero,i.size,i.bytes))=some (some (.int .u64 0),1,8):=by kernel_rfl
def ntk (xs:List Int) (k:Nat):List Int:=(nz xs).take k
theorem out_step {xs:List Int} {k:Nat} (h:k<xs.length) {v:Int} (e:v=nm (xs.getD k 0)):(ntk xs k).map (Value.int .u64) ++ [Value.int .u64 v]=(ntk xs (k+1)).map (Value.int .u64):=by
 unfold ntk;rw [List.take_succ_eq_append_getElem (show k<(nz xs).length by rw [nz_len];exact h),List.map_append];congr 1;rw [e,<- nz_getD];simp [List.getElem?_eq_getElem (show k<(nz xs).length by rw [nz_len];exact h)]
theorem rNormalO (a n c xs w) (h:Rd w a n c xs) (hn:n<=1000000):
  Calls Tryz.prog 212 #[.slice a n c] w λe w'=>∃a' c',e = .returned (.slice a' (tl (nz xs) n) c')/\w'.ownsRow w.heap.size 70 1 (.slice a' (tl (nz xs) n) c') (tl (nz xs) n) ((nrm xs).map (Value.int .u64))/\Below w.heap.size w w':=by
 obtain ⟨i0,hi,ah,ai,aj⟩:=info_parts infoR70;have ag:=h.len;go_enter Tryz.func212,Tryz.ntmps212;go_wp2;go_loop [3,4] (λl i=>∃k:Nat,k<=n/\i = .int .i64 k/\l = .int .i64 ((tl (nz xs) k:Nat)-1:Int)) (λ_ i=>n-(intOf i).toNat)
 case atStart=>exact ⟨0,Nat.zero_le _,rfl,rfl⟩
 case round=>
  obtain ⟨k,hk,rfl,rfl⟩:=hrel;by_cases hlt:k<n
  ·obtain ⟨b,o,x,rfl,hb,HX,ak,al,hc⟩:=h.one hlt;by_cases hx:nm x=0
   ·have HT:Hid (tl (nz xs) (k+1)=tl (nz xs) k):=tl_zero _ (by rw [nz_getD,HX.out];exact hx);have am:(nm x != 0)=false:=by rw [hx];rfl
    clear hx;go_wp2_with (go_at_call 76;refine (rNorm _ _ (by omega) (by omega)).mono ?_;rintro e w' ⟨rfl,rfl⟩);go_round
    case rel=>exact ⟨k+1,by omega,by go_num,by rw [HT.out]⟩
    case measure=>simp [intOf];omega
   ·have HT:Hid (tl (nz xs) (k+1)=k+1):=tl_last _ (by rw [nz_getD,HX.out];exact hx);have am:(nm x != 0)=true:=by rw [bne_iff_ne];exact hx
    go_wp2_with (go_at_call 76;refine (rNorm _ _ (by omega) (by omega)).mono ?_;rintro e w' ⟨rfl,rfl⟩);go_round
    case rel=>exact ⟨k+1,by omega,by go_num,by rw [HT.out];go_num⟩
    case measure=>simp [intOf];omega
  ·have an:k=n:=by omega
   subst an;have ao:=tl_le (nz xs) k;obtain ⟨m,hm⟩:∃m,m=tl (nz xs) k:=⟨_,rfl⟩;rw [<- hm] at ao;have HM:=hid hm;rw [<- hm];clear hm;go_wp2;go_loopw [5,6] (λv i wr=>∃j:Nat,j<=m/\i = .int .i64 j/\wr.ownsRow w.heap.size 70 1 v j ((ntk xs j).map (Value.int .u64))/\Below w.heap.size w wr) (λ_ i _=>m-(intOf i).toNat)
   case atStart=>exact ⟨0,Nat.zero_le _,rfl,World.ownsRow_nil _ _ _ _,Below.refl _ _⟩
   case round=>
    obtain ⟨j,hj,rfl,aa,ab⟩:=hrel;by_cases hlt2:j<m
    ·obtain ⟨b,o,x,rfl,hb,HX,ak,al,hc⟩:=(h.below ab).one (show j<k by omega);have aq:=ab.size;go_wp2_with (first | (go_at_call 76;refine (rNorm _ _ (by omega) (by omega)).mono ?_;rintro e w' ⟨rfl,rfl⟩) | (at_builtin;refine wpList_append_own _ rfl _ _ 52 rfl w.heap.size 70 i0 (.int .u64 0) 1 8 Tryz.underlying52 hi ah ai aj rfl (by decide) _ _ _ rfl (aa.alloc _) ⟨_,0,none⟩ 1 1 [.int .u64 (nm x)] rfl rfl ?c1 ?c2 ?c3 ?c4 ?c5 ?_))
     case c1=>
      intro j u hj;match j,hj with
      | 0,hj=>simp at hj;subst hj;simp [Addr.add]
     case c2=>intro u hu;simp at hu;subst hu;rfl
     case c3=>unfold maxLen;omega
     case c4=>omega
     case c5=>simp;omega
     ·intro v' w1 ad ae _;rw [out_step (by omega) (by rw [HX.out])] at ad;have af:Below w.heap.size w w1:=(ab.alloc (by omega) _).grown ae (by simp;omega) (λk hk=>(aa.lt k hk).1);clear aa ae ab;go_wp2;go_roundw
      case rel=>exact ⟨j+1,by omega,by go_num,ad,af⟩
      case measure=>simp [intOf];omega
    ·have ap:j=m:=by omega
     subst ap;obtain ⟨a',c',rfl,hr,ar⟩:=Rd.own aa (λx hx=>nz_bd xs x (List.mem_of_mem_take hx));go_wp2;go_ret;rw [<- HM.out];refine ⟨a',c',rfl,?_,ab⟩
     have e:nrm xs=(nz xs).take j:=by unfold nrm trm;rw [nz_len,ag,<- HM.out]
     rw [e];exact aa
theorem rNormal (a n c xs w) (h:Rd w a n c xs) (hn:n<=1000000):
  Calls Tryz.prog 212 #[.slice a n c] w λe w'=>∃a' c',e = .returned (.slice a' (tl (nz xs) n) c')/\Rd w' a' (tl (nz xs) n) c' (nrm xs)/\Below w.heap.size w w'/\∀x,a'=some x->w.heap.size<=x.block:=by
 refine (rNormalO _ _ _ _ _ h hn).mono ?_;rintro e w' ⟨a',c',rfl,aa,hb⟩;obtain ⟨a2,c2,e2,hr,hf⟩:=Rd.own aa (nrm_bd xs);simp only [Value.slice.injEq,true_and] at e2;obtain ⟨rfl,rfl⟩:=e2;exact ⟨a',c',rfl,hr,hb,hf⟩
theorem evstep (xs:List Int) (x:Int) {k:Nat} {y q z:Int} (h:k<xs.length) (hy:y=nm (ev (xs.take k) x)) (hq:q=pw x k) (hz:xs.getD k 0=z):nm (y+nm (z*q))=nm (ev (xs.take (k+1)) x):=by
 rw [ev_take xs x h,hz,hy,hq,nm_addl,nm_addr];exact nm_add_congr rfl (by unfold pw;rw [nm_mulr])
theorem rEval (a n c xs) (x:Int) (w) (h:Rd w a n c xs) (hn:n<=1000000) (g0:0<=x) (g1:x<=18446744073709551615):
  Calls Tryz.prog 117 #[.slice a n c,.int .u64 x] w λe w'=>e = .returned (.int .u64 (nm (ev xs x)))/\w'=w:=by
 have ab:=h.len;go_enter Tryz.func117,Tryz.ntmps117;go_wp2;go_loop [5,6,7] (λs p i=>∃(k:Nat) (y q:Int),k<=n/\i = .int .i64 k/\s = .int .u64 y/\p = .int .u64 q/\0<=y/\y<=2147483646/\0<=q/\q<=2147483646/\Hid (y=nm (ev (xs.take k) x))/\Hid (q=pw x k)) (λ_ _ i=>n-(intOf i).toNat)
 case atStart=>exact ⟨0,0,1,Nat.zero_le _,rfl,rfl,rfl,by omega,by omega,by omega,by omega,rfl,(pw_zero x).symm⟩
 case round=>
  obtain ⟨k,y,q,hk,rfl,rfl,rfl,ae,af,ag,ah,HY,HQ⟩:=hrel;by_cases hlt:k<n
  ·obtain ⟨b,o,z,rfl,hb,HZ,ai,aj,hc⟩:=h.one hlt;have ad:=nm_bd (z*q);go_wp2_with (first | (go_at_call 160;refine (rMul _ _ _ (by omega) (by omega) (by omega) (by omega)).mono ?_;rintro e w' ⟨rfl,rfl⟩) | (go_at_call 159;refine (rAdd _ _ _ (by omega) (by omega) (by omega) (by omega)).mono ?_;rintro e w' ⟨rfl,rfl⟩));go_round
   case rel=>exact ⟨k+1,_,_,by omega,by go_num,rfl,rfl,(nm_bd _).1,(nm_bd _).2,(nm_bd _).1,(nm_bd _).2,evstep xs x (by omega) HY.out HQ.out HZ.out,by rw [HQ.out];exact (pw_succ x k).symm⟩
   case measure=>simp [intOf];omega
  ·have aa:k=n:=by omega
   subst aa;go_wp2;go_ret;rw [HY.out,List.take_of_length_le (by omega)];exact ⟨rfl,rfl⟩
def smk (ps qs:List Int) (k:Nat):List Int:=(List.range k).map λi=>nm (ps.getD i 0+qs.getD i 0)
theorem smk_step (ps qs:List Int) (k:Nat) {v:Int} (e:v=nm (ps.getD k 0+qs.getD k 0)):smk ps qs k ++ [v]=smk ps qs (k+1):=by
 unfold smk;rw [List.range_succ,List.map_append,e];rfl
theorem smk_bd (ps qs:List Int) (k:Nat):∀x ∈ smk ps qs k,0<=x/\x<=18446744073709551615:=by
 intro x hx;obtain ⟨k,_,rfl⟩:=List.mem_map.1 hx;have:=nm_bd (ps.getD k 0+qs.getD k 0);omega
theorem own_base {w:World} {B B' n:Nat} {E:TypeId} {v:Value} {xs:List Value} (h:w.ownsRow B E 1 v n xs) (hB:B'<=B):w.ownsRow B' E 1 v n xs:=by
 rcases h.2 with h' | ⟨g,aa,ab,e1,e2,e3⟩
 ·exact ⟨h.1,Or.inl h'⟩
 ·exact ⟨h.1,Or.inr ⟨g,aa,ab,e1,by omega,e3⟩⟩
theorem rSumO (a n c xs b m d ys w) (h:Rd w a n c xs) (g:Rd w b m d ys) (hn:n<=1000) (hm:m<=1000):
  Calls Tryz.prog 195 #[.slice a n c,.slice b m d] w λe w'=>∃a' c',e = .returned (.slice a' (nrm (sml xs ys)).length c')/\w'.ownsRow w.heap.size 70 1 (.slice a' (nrm (sml xs ys)).length c') (nrm (sml xs ys)).length ((nrm (sml xs ys)).map (Value.int .u64))/\Below w.heap.size w w':=by
 have ah:=h.len;have ai:=g.len;go_enter Tryz.func195,Tryz.ntmps195;go_wp2;go_loopw [5,6] (λv i wr=>∃k:Nat,k<=max n m/\i = .int .i64 k/\wr.ownsRow w.heap.size 70 1 v k ((smk xs ys k).map (Value.int .u64))/\Below w.heap.size w wr) (λ_ i _=>max n m-(intOf i).toNat)
 case atStart=>exact ⟨0,Nat.zero_le _,rfl,World.ownsRow_nil _ _ _ _,Below.refl _ _⟩
 case round=>
  obtain ⟨k,hk,rfl,ae,aa⟩:=hrel;have aj:=aa.size;by_cases h1:k<n
  ·obtain ⟨b1,o1,x,rfl,aq,HX,ar,au,av⟩:=(h.below aa).one h1;have aw:=nm_bd x;by_cases h2:k<m
   ·obtain ⟨b2,o2,y,rfl,ak,HY,al,am,an⟩:=(g.below aa).one h2;have HV:Hid (nm (nm x+y)=nm (xs.getD k 0+ys.getD k 0)):=by rw [HX.out,HY.out];exact nm_addl _ _
    go_wp2_with (first | (go_at_call 159;refine (rAdd _ _ _ (by omega) (by omega) (by omega) (by omega)).mono ?_;rintro e w' ⟨rfl,hw⟩;have hw:=hw.symm;subst hw) | (at_builtin;refine wpList_app1 Tryz.underlying52 infoR70 _ rfl _ _ rfl w.heap.size _ _ _ rfl ae _ rfl (by omega) (by omega) ?_;intro v' w3 ab ad;rw [smk_step xs ys k HV.out] at ab;have af:=aa.trans ad;clear ae aa ad));go_roundw
    case rel=>exact ⟨k+1,by omega,by go_num,ab,af⟩
    case measure=>simp [intOf];omega
   ·have HV:Hid (nm x=nm (xs.getD k 0+ys.getD k 0)):=by rw [HX.out,getD_big (show ys.length<=k by omega),Int.add_zero];exact rfl
    go_wp2_with (first | (go_at_call 159;refine (rAdd _ _ _ (by omega) (by omega) (by omega) (by omega)).mono ?_;rintro e w' ⟨rfl,hw⟩;have hw:=hw.symm;subst hw) | (at_builtin;refine wpList_app1 Tryz.underlying52 infoR70 _ rfl _ _ rfl w.heap.size _ _ _ rfl ae _ rfl (by omega) (by omega) ?_;intro v' w3 ab ad;rw [smk_step xs ys k HV.out] at ab;have af:=aa.trans ad;clear ae aa ad));go_roundw
    case rel=>exact ⟨k+1,by omega,by go_num,ab,af⟩
    case measure=>simp [intOf];omega
  ·by_cases h2:k<m
   ·obtain ⟨b2,o2,y,rfl,ak,HY,al,am,an⟩:=(g.below aa).one h2;have HV:Hid (nm y=nm (xs.getD k 0+ys.getD k 0)):=by rw [HY.out,getD_big (show xs.length<=k by omega),Int.zero_add];exact rfl
    go_wp2_with (first | (go_at_call 159;refine (rAdd _ _ _ (by omega) (by omega) (by omega) (by omega)).mono ?_;rintro e w' ⟨rfl,hw⟩;have hw:=hw.symm;subst hw) | (at_builtin;refine wpList_app1 Tryz.underlying52 infoR70 _ rfl _ _ rfl w.heap.size _ _ _ rfl ae _ rfl (by omega) (by omega) ?_;intro v' w3 ab ad;rw [smk_step xs ys k HV.out] at ab;have af:=aa.trans ad;clear ae aa ad));go_roundw
    case rel=>exact ⟨k+1,by omega,by go_num,ab,af⟩
    case measure=>simp [intOf];omega
   ·obtain ⟨a',c',rfl,hr,ax⟩:=Rd.own ae (smk_bd xs ys k);have HE:Hid (smk xs ys k=sml xs ys):=by unfold smk sml;rw [ah,ai,show k=max n m by omega];exact rfl
    have HK:Hid (k=(sml xs ys).length):=by rw [sml_len,ah,ai];unfold Hid;omega
    go_wp2_with fail;refine (rNormalO _ _ _ _ _ hr (by omega)).mono ?_;rintro e w2 ⟨a2,c2,rfl,ag,ao⟩;rw [HE.out] at ag ⊢;rw [HK.out,<- nrm_len] at ag ⊢;have ap:=own_base ag aj;clear ag;go_wp2;go_ret;exact ⟨a2,c2,rfl,ap,aa.trans (ao.mono aj)⟩
theorem cTrim (a n c xs w) (h:Rd w a n c xs):
  Calls Tryz.prog 189 #[.slice a n c] w λe w'=>e = .returned (.slice a (tl xs n) c)/\w'=w:=by
 have hm:=h.max;have aa:=h.cap;unfold maxLen at hm;go_enter Tryz.func189,Tryz.ntmps189;go_wp2;go_loop [3] (λv=>∃k:Nat,k<=n/\v = .int .i64 k/\Hid (tl xs n=tl xs k)) (λv=>(intOf v).toNat)
 case atStart=>exact ⟨n,Nat.le_refl _,rfl,rfl⟩
 case round=>
  obtain ⟨k,hk,rfl,HR⟩:=hrel;cases k with
  | zero=>
   go_wp2;go_ret;rw [HR.out];exact ⟨rfl,rfl⟩
  | succ m=>
   obtain ⟨b,o,x,rfl,hb,HX,ab,ad,hc⟩:=h.one (show m<n by omega);by_cases hx:x=0
   ·subst hx;go_wp2;go_round
    case rel=>exact ⟨m,by omega,rfl,HR.out.trans (tl_zero xs HX.out)⟩
    case measure=>simp [intOf]
   ·have ae:(x==0)=false:=by rw [beq_eq_false_iff_ne];exact hx
    have HL:Hid (tl xs n=m+1):=HR.out.trans (tl_last xs (by rw [HX.out];exact hx));go_wp2;go_ret;rw [HL.out];exact ⟨rfl,rfl⟩
theorem info70:(Tryz.prog.info? 70).map (λi=>(i.zero,i.size,i.bytes))=some (some (.int .u64 0),1,8):=by kernel_rfl
theorem fill_step (xs L:List Int) (k:Nat) (hk:k<xs.length) (hL:L=(nz xs).take k++List.replicate (xs.length-k) 0):
  L.set k (nm (xs.getD k 0))=(nz xs).take (k+1)++List.replicate (xs.length-(k+1)) 0:=by
 subst hL;have hl:((nz xs).take k).length=k:=by simp [nz_len];omega
 rw [List.set_append_right _ _ (by omega),hl,Nat.sub_self];have:xs.length-k=(xs.length-(k+1))+1:=by omega
 rw [this,List.replicate_succ,List.set_cons_zero];rw [List.take_succ_eq_append_getElem (show k<(nz xs).length by rw [nz_len];exact hk),List.append_assoc];congr 1;rw [<- nz_getD];simp [List.getElem?_eq_getElem (show k<(nz xs).length by rw [nz_len];exact hk)]
theorem cNormal (a n c xs w) (h:Rd w a n c xs) (hn:n<=1000000):
  Calls Tryz.prog 226 #[.slice a n c] w λe w'=>e = .returned (.slice (some ⟨w.heap.size,0,none⟩) (tl (nz xs) n) n)/\Blk w' w.heap.size (nz xs)/\Below w.heap.size w w':=by
 obtain ⟨i0,hi,aj,ak,al⟩:=info_parts info70;have ai:=h.len;go_enter Tryz.func226,Tryz.ntmps226;go_wp2_with (at_make;refine wpList_make_full _ rfl _ _ 52 rfl w.heap.size 70 i0 (.int .u64 0) 1 Tryz.underlying52 hi aj ak .i64 .i64 _ _ n rfl rfl (by omega) (by omega) (by rw [al];omega) (by unfold maxLen;omega) (Nat.le_refl _) ?_;intro w1 ae ad);have am:Blk w1 w.heap.size (List.replicate n 0):=Blk.made ae;have af:Below w.heap.size w w1:=(Below.refl _ _).grown ad (Nat.le_refl _) (by simp);clear ae ad;go_loopw [11] (λi wr=>∃k:Nat,k<=n/\i = .int .i64 k/\Blk wr w.heap.size ((nz xs).take k++List.replicate (xs.length-k) 0)/\Below w.heap.size w wr) (λi _=>n-(intOf i).toNat)
 case atStart=>exact ⟨0,Nat.zero_le _,rfl,by simpa [ai] using am,af⟩
 case round=>
  obtain ⟨k,hk,rfl,aa,ab⟩:=hrel;by_cases hlt:k<n
  ·obtain ⟨b,o,x,rfl,hb,HX,ap,aq,hc⟩:=(h.below ab).one hlt;have ao:=aa.cell (i:=k) (by simp [nz_len];omega);have ar:=aa.frozen k;have ag:Blk (wr.setCell ⟨w.heap.size,k,none⟩ (.int .u64 (nm x))) w.heap.size ((nz xs).take (k+1)++List.replicate (xs.length-(k+1)) 0):=by
    rw [<- fill_step xs _ k (by omega) rfl,HX.out];exact aa.set k _
   have ah:Hid (Below w.heap.size w (wr.setCell ⟨w.heap.size,k,none⟩ (.int .u64 (nm x)))):=ab.setCell (Nat.le_refl _) _;clear aa ab;go_wp2_with (go_at_call 143;refine (fNorm _ _ (by omega) (by omega)).mono ?_;rintro e w' ⟨rfl,rfl⟩);go_roundw
   case rel=>exact ⟨k+1,by omega,by go_num,ag,ah.out⟩
   case measure=>simp [intOf];omega
  ·have an:k=n:=by omega
   subst an;rw [List.take_of_length_le (by rw [nz_len];omega),show xs.length-k=0 by omega,List.replicate_zero,List.append_nil] at aa;have hr:Rd wr (some ⟨w.heap.size,0,none⟩) k k (nz xs):=by
    have:=aa.rd 0 k k (Nat.le_refl _) (by unfold maxLen;omega) (by rw [nz_len];omega) (nz_bd xs);rwa [List.drop_zero,List.take_of_length_le (by rw [nz_len];omega)] at this
   go_wp2_with (go_at_call 189;refine (cTrim _ _ _ _ _ hr).mono ?_;rintro e w' ⟨rfl,rfl⟩);go_ret;exact ⟨rfl,aa,ab⟩
end
section
open Go.Maps Go.RowKit
theorem lawK:Keyed Tryz.prog 3:=int_keyed Tryz.underlying3
def rawE (v:Value):Option (DataW Value×List MemPlace):=some (.held v,[])
def i64r (k:Int):Prop:=-9223372036854775808<=k/\k<=9223372036854775807
def MapI (w:World) (b q:Nat) (F:Int->Option Value):Prop:=
 ∃D:DataW Value,w.ownsMap Tryz.prog 3 rawE b q D/\Maps.size D=q/\∀k:Int,i64r k->Maps.has D (.int .i64 k)=(F k).isSome/\∀v,F k=some v->∀z,D.atKey (.int .i64 k) z = .held v
theorem own_tight {w:World} {P:Program} {k:TypeId} {R:Value->Option (DataW Value×List MemPlace)} {b n:Nat} {D:DataW Value} (h:w.ownsMap P k R b n D):w.ownsMap P k R b (Maps.size D) D:=by
 obtain ⟨es,aa,hb,F,_,hD⟩:=h;refine ⟨es,aa,hb,F,?_,hD⟩
 rw [hD];simp [Maps.size,length_sorted]
theorem keyK {k} (h:i64r k):keyOf Tryz.prog 3 (.int .i64 k)=some (.int .i64 k):=keyOf_int_mk Tryz.underlying3 (WalkArith.wf_i64 h)
theorem MapI.lt {w b q F} (h:MapI w b q F):b<w.heap.size:=let ⟨_,h1,_⟩:=h;h1.lt
theorem MapI.block {w} {w':World} {b q F} (h:MapI w b q F) (e:w'.heap[b]? = w.heap[b]?):MapI w' b q F:=by
 obtain ⟨D,⟨es,aa,hb,h1,h2,h3⟩,h4,h5⟩:=h;exact ⟨D,⟨es,aa,e.trans hb,h1,h2,h3⟩,h4,h5⟩
theorem MapI.below {w w' B b q F} (h:MapI w b q F) (hb:Below B w w') (hB:b<B):MapI w' b q F:=h.block (hb.block b hB)
theorem MapI.map {w b q F} (h:MapI w b q F):∃es clock,w.heap[b]? = some (.map es clock):=by
 obtain ⟨D,⟨es,clock,hb,_⟩,_⟩:=h;exact ⟨es,clock,hb⟩
theorem MapI.made (w:World):MapI (w.alloc (.map #[] 0)) w.heap.size 0 (λ_=>none):=
 ⟨.map [],World.ownsMap_made _ _ _ _,rfl,λk _=>⟨rfl,by simp⟩⟩
def mset (F:Int->Option Value) (k:Int) (v:Option Value):Int->Option Value:=λi=>if i=k then v else F i
theorem lit_ne {i k:Int} (h:i≠k):(Lit.int .i64 i)≠(Lit.int .i64 k):=λe=>h (by injection e)
theorem MapI.store {w b q F} {t e:TypeId} (h:MapI w b q F) (ht:Tryz.prog.underlying t=some (.map 3 e)) (hq:q<=1000) {k} (hk:i64r k) (v:Value):
  ∃w',(Instr.mapUpdate t (.map (some b)) (.int .i64 k) v).run Tryz.prog w = .ok () w'/\MapI w' b (if (F k).isSome then q else q+1) (mset F k (some v))/\w.mapTurned w' b:=by
 obtain ⟨D,ho,hs,hF⟩:=h;obtain ⟨w',hr,ab,ad⟩:=ho.store lawK ht (by unfold maxLen;omega) (keyK hk) (show rawE v=some (.held v,[]) from rfl);have aa:Maps.size (D.put (.int .i64 k) (.held v))=if (F k).isSome then q else q+1:=by rw [size_put (ho.tidy lawK),(hF k hk).1,hs]
 refine ⟨w',hr,⟨_,aa ▸ own_tight ab,aa,λi hi=>?_⟩,ad⟩
 unfold mset;by_cases e:i=k
 ·subst e;rw [if_pos rfl,has_put_same ho.isMap (show WideAt.IsKeyLit (.int .i64 i) from trivial)];refine ⟨rfl,λu hu z=>?_⟩
  obtain rfl:=Option.some.inj hu;exact atKey_put_same ho.isMap (show WideAt.IsKeyLit (.int .i64 i) from trivial) _ _
 ·rw [if_neg e,has_put_other (lit_ne e)];refine ⟨(hF i hi).1,λu hu z=>?_⟩
  rw [atKey_put_other (lit_ne e)];exact (hF i hi).2 u hu z
theorem MapI.drop {w b q F} {t e:TypeId} (h:MapI w b q F) (ht:Tryz.prog.underlying t=some (.map 3 e)) {k} (hk:i64r k) (ty:TypeId):
  ∃w',(Builtin.delete_ #[t,3] ty #[.map (some b),.int .i64 k]).run Tryz.prog w = .ok (.tuple #[]) w'/\MapI w' b (if (F k).isSome then q-1 else q) (mset F k none)/\w.mapTurned w' b:=by
 obtain ⟨D,ho,hs,hF⟩:=h;obtain ⟨w',hr,ab,ad⟩:=ho.drop lawK ht (keyK hk) ty;have aa:Maps.size (D.del (.int .i64 k))=if (F k).isSome then q-1 else q:=by
  have:=size_del (k:=.int .i64 k) (ho.tidy lawK);rw [(hF k hk).1,hs] at this;split at this <;> simp_all <;> omega
 refine ⟨w',hr,⟨_,aa ▸ own_tight ab,aa,λi hi=>?_⟩,ad⟩
 unfold mset;by_cases e:i=k
 ·subst e;rw [if_pos rfl,has_del_same];exact ⟨rfl,λu hu=>by cases hu⟩
 ·rw [if_neg e,has_del_other (lit_ne e)];refine ⟨(hF i hi).1,λu hu z=>?_⟩
  rw [atKey_del_other (lit_ne e)];exact (hF i hi).2 u hu z
theorem MapI.look {w b q F} {t e:TypeId} (h:MapI w b q F) (ht:Tryz.prog.underlying t=some (.map 3 e)) {z:Value} (hz:(zeroValue e).run Tryz.prog w = .ok z w) {k} (hk:i64r k):
  (Instr.lookup t (.map (some b)) (.int .i64 k) true).run Tryz.prog w = .ok (.tuple #[(F k).getD z,.bool (F k).isSome]) w/\(Instr.lookup t (.map (some b)) (.int .i64 k) false).run Tryz.prog w = .ok ((F k).getD z) w:=by
 obtain ⟨D,ho,hs,hF⟩:=h;have hv:∀(v:Value) (ps:List MemPlace),rawE v=some (D.atKey (.int .i64 k) (.held z),ps)->v=(F k).getD z:=λv ps hv=>by
  unfold rawE at hv;simp only [Option.some.injEq,Prod.mk.injEq] at hv;have h1:=hv.1;cases hf:F k with
  | none=>
   rw [atKey_of_not_has (by rw [(hF k hk).1,hf];rfl)] at h1;injection h1
  | some u=>
   rw [(hF k hk).2 u hf] at h1;injection h1
 obtain ⟨v,ps,hr,hp⟩:=ho.look_ok lawK ht hz (show rawE z=some (.held z,[]) from rfl) (keyK hk);obtain ⟨v2,aa,ab,ad⟩:=ho.lookup lawK ht hz (show rawE z=some (.held z,[]) from rfl) (keyK hk);rw [hr,ab,hv v ps hp,hv v2 aa ad,(hF k hk).1];exact ⟨rfl,rfl⟩
theorem MapI.len {w b q F} {t e:TypeId} (h:MapI w b q F) (ht:Tryz.prog.underlying t=some (.map 3 e)) (ty:TypeId):(Builtin.len_ #[t] ty #[.map (some b)]).run Tryz.prog w = .ok (.int .i64 (q:Int)) w:=by
 obtain ⟨D,ho,hs,_⟩:=h;rw [ho.len ht ty,hs]
/-! At the operation. -/
theorem wpList_lookK (w:World) {ops:Array Oper} {rest:List Oper} {o:Oper} {a:Act} {Q:Exit->Act->World->Prop} (hg:o.guard=none) (m x:Operand) (t:TypeId) (hop:o.op=Op.lookup t m x true) (e:TypeId) (ht:Tryz.prog.underlying t=some (.map 3 e)) (z:Value) (hz:(zeroValue e).run Tryz.prog w = .ok z w) (b:Nat) (q F) (hm:a.eval m = .map (some b)) (h:MapI w b q F) (k:Int) (hx:a.eval x = .int .i64 k) (hk:i64r k) (hK:wpList Tryz.prog ops Q rest (a.put o.dst (.tuple #[(F k).getD z,.bool (F k).isSome])) w):wpList Tryz.prog ops Q (o :: rest) a w:=by
 refine wpList_plain hg λK' hK'=>?_;unfold Oper.wp;simp [execOp,hop,hm,hx,(h.look ht hz hk).1,Result.andThen];exact hK' _ _ hK
theorem wpList_lookV (w:World) {ops:Array Oper} {rest:List Oper} {o:Oper} {a:Act} {Q:Exit->Act->World->Prop} (hg:o.guard=none) (m x:Operand) (t:TypeId) (hop:o.op=Op.lookup t m x false) (e:TypeId) (ht:Tryz.prog.underlying t=some (.map 3 e)) (z:Value) (hz:(zeroValue e).run Tryz.prog w = .ok z w) (b:Nat) (q F) (hm:a.eval m = .map (some b)) (h:MapI w b q F) (k:Int) (hx:a.eval x = .int .i64 k) (hk:i64r k) (hK:wpList Tryz.prog ops Q rest (a.put o.dst ((F k).getD z)) w):wpList Tryz.prog ops Q (o :: rest) a w:=by
 refine wpList_plain hg λK' hK'=>?_;unfold Oper.wp;simp [execOp,hop,hm,hx,(h.look ht hz hk).2,Result.andThen];exact hK' _ _ hK
theorem wpList_putK (w) {ops:Array Oper} {rest:List Oper} {o:Oper} {a:Act} {Q:Exit->Act->World->Prop} (hg:o.guard=none) (m x y:Operand) (t:TypeId) (hop:o.op=Op.mapUpdate t m x y) (e:TypeId) (ht:Tryz.prog.underlying t=some (.map 3 e)) (b:Nat) (q F) (hm:a.eval m = .map (some b)) (h:MapI w b q F) (hq:q<=1000) (k:Int) (v:Value) (hx:a.eval x = .int .i64 k) (hv:a.eval y=v) (hk:i64r k) (hK:∀w',MapI w' b (if (F k).isSome then q else q+1) (mset F k (some v))->w.grownBy w' (some b)->wpList Tryz.prog ops Q rest (a.put o.dst undef) w'):wpList Tryz.prog ops Q (o :: rest) a w:=by
 refine wpList_plain hg λK' hK'=>?_;obtain ⟨w',aa,r1,r2⟩:=h.store ht hq hk v;unfold Oper.wp;simp [execOp,hop,hm,hx,hv,aa,Result.andThen];exact hK' _ _ (hK w' r1 r2.grown)
theorem wpList_delK (w) {ops:Array Oper} {rest:List Oper} {o:Oper} {a:Act} {Q:Exit->Act->World->Prop} (hg:o.guard=none) (m x:Operand) (t:TypeId) (hop:o.op=Op.call { callee:=Callee.builtin Builtin.delete,args:=#[m,x],argTypes:=#[t,3] }) (e:TypeId) (ht:Tryz.prog.underlying t=some (.map 3 e)) (b:Nat) (q F) (hm:a.eval m = .map (some b)) (h:MapI w b q F) (k:Int) (hx:a.eval x = .int .i64 k) (hk:i64r k) (hK:∀w',MapI w' b (if (F k).isSome then q-1 else q) (mset F k none)->w.grownBy w' (some b)->wpList Tryz.prog ops Q rest (a.put o.dst (.tuple #[])) w'):wpList Tryz.prog ops Q (o :: rest) a w:=by
 refine wpList_plain hg λK' hK'=>?_;obtain ⟨w',aa,r1,r2⟩:=h.drop ht hk o.type;unfold Oper.wp;simp [execOp,hop,resolve,invoke,builtin,hm,hx,aa,Result.andThen];exact hK' _ _ (hK w' r1 r2.grown)
theorem wpList_lenK (w) {ops:Array Oper} {rest:List Oper} {o:Oper} {a:Act} {Q:Exit->Act->World->Prop} (hg:o.guard=none) (m:Operand) (t:TypeId) (hop:o.op=Op.call { callee:=Callee.builtin Builtin.len,args:=#[m],argTypes:=#[t] }) (e:TypeId) (ht:Tryz.prog.underlying t=some (.map 3 e)) (b:Nat) (q F) (hm:a.eval m = .map (some b)) (h:MapI w b q F) (hK:wpList Tryz.prog ops Q rest (a.put o.dst (.int .i64 (q:Int))) w):wpList Tryz.prog ops Q (o :: rest) a w:=by
 refine wpList_plain hg λK' hK'=>?_;unfold Oper.wp;simp [execOp,hop,resolve,invoke,builtin,hm,h.len ht o.type,Result.andThen];exact hK' _ _ hK
end
section
open Crm Go.RowKit
def nd2 (t:Int):Nat->Int
 | 0=>-1
 | k+1=>nd2 t k+(t-k+1)
def dn (s:Int) (ds:List Int) (z:Int):Int:=if z<0 then s else ds.getD z.toNat 0
def A2 (s:Int) (ds:List Int) (t i j:Nat):Int:=nm (if i<=j then dn s ds (nd2 t i+((j:Int)-i)) else dn s ds (nd2 t j+((i:Int)-j)))
theorem wpList_appS2 {P:Program} {T E:TypeId} (hT:P.underlying T=some (.slice E)) (info:(P.info? E).map (λi=>(i.zero,i.size,i.bytes))=some (some (.agg #[.int .i64 0,.int .u64 0]),2,16)) (w:World) {ops:Array Oper} {rest:List Oper} {o:Oper} {a:Act} {Q:Exit->Act->World->Prop} (hgd:o.guard=none) (s x:Operand) (ho:o.op = .call { callee:=.builtin .append,args:=#[s,x],argTypes:=#[T,T] }) (base:Nat) (v:Value) (n:Nat) (l:List (Int×Int)) (hs:a.eval s=v) (hown:w.ownsRow base E 2 v n (shc l)) (p q:Int) (hx:a.eval x = .slice (some ⟨w.heap.size,0,none⟩) 1 1) (hn:n<=1000000) (hbase:base<=w.heap.size) (h:∀v' w',w'.ownsRow base E 2 v' (n+1) (shc (l ++ [(p,q)]))->w.grownBy w' v.ownBlock->(v'.ownBlock=v.ownBlock\/∃k,v'.ownBlock=some k/\w.heap.size<=k)->wpList P ops Q rest (a.put o.dst v') w'):wpList P ops Q (o :: rest) a (w.alloc (.cells #[.int .i64 p,.int .u64 q] E)):=by
 obtain ⟨i0,hi,ae,af,ag⟩:=info_parts info;refine wpList_append_own_at _ hgd s x T ho base E i0 (.agg #[.int .i64 0,.int .u64 0]) 2 16 hT hi ae af ag rfl (by decide) v n _ hs (hown.alloc _) ⟨w.heap.size,0,none⟩ 1 1 [.int .i64 p,.int .u64 q] hx rfl ?_ ?_ (by unfold maxLen;omega) (by omega) (by simp;omega) ?_
 ·intro j u hj;match j,hj with
  | 0,hj=>simp at hj;subst hj;rw [Addr.add_lit];exact cell_alloc0 _ _ _ _
  | 1,hj=>simp at hj;subst hj;rw [Addr.add_lit];exact cell_alloc1 _ _ _ _
 ·intro u hu;simp at hu;rcases hu with rfl | rfl <;> rfl
 ·intro v' w' ad aa _ ab;refine h v' w' (by rw [shc_snoc];exact ad) ⟨aa.os,aa.tape,aa.output,?_,λk hk hne=>?_⟩ ?_
  ·have:=aa.size;simp at this;omega
  ·rw [aa.block k (by simp;omega) hne];exact Below.heap_alloc _ _ _ hk
  ·rcases ab with ab | ab
   ·exact .inl ab
   ·exact .inr ⟨_,ab,by simp⟩
structure Two (w:World) (B:Nat) (E:TypeId) (v1 v2:Value) (l1 l2:List (Int×Int)):Prop where
 o1:w.ownsRow B E 2 v1 l1.length (shc l1)
 o2:w.ownsRow B E 2 v2 l2.length (shc l2)
 ne:∀g,v1.ownBlock=some g->v2.ownBlock≠some g
theorem Two.start (w:World) (B:Nat) (E:TypeId):Two w B E (.slice none 0 0) (.slice none 0 0) [] []:=⟨World.ownsRow_nil _ _ _ _,World.ownsRow_nil _ _ _ _,λg h=>by simp [Value.ownBlock] at h⟩
theorem Two.swap {w B E v1 v2 l1 l2} (h:Two w B E v1 v2 l1 l2):Two w B E v2 v1 l2 l1:=⟨h.o2,h.o1,λg h1 h2=>h.ne g h2 h1⟩
theorem Two.add {w} {w':World} {B E v1 v2} {v':Value} {l1 l2} {p:Int×Int} (h:Two w B E v1 v2 l1 l2) (ho:w'.ownsRow B E 2 v' (l1.length+1) (shc (l1 ++ [p]))) (hg:w.grownBy w' v1.ownBlock) (hat:v'.ownBlock=v1.ownBlock\/∃k,v'.ownBlock=some k/\w.heap.size<=k):Two w' B E v' v2 (l1 ++ [p]) l2:=by
 refine ⟨by rw [List.length_append,List.length_singleton];exact ho,h.o2.kept hg ?_,λg h1 h2=>?_⟩
 ·cases hv:v1.ownBlock with
  | none=>cases hv2:v2.ownBlock <;> simp
  | some g=>exact .inr (h.ne g hv)
 ·rcases hat with hat | ⟨k,hk,aa⟩
  ·exact h.ne g (by rw [<- hat];exact h1) h2
  ·have h3:=(h.o2.lt g h2).2;rw [hk] at h1;have:=Option.some.inj h1;omega
theorem RdS.news {w} {ad:Addr} {n c l} (h:RdS w (some ad) n c l):∀j u,(shc l)[j]? = some u->w.cell? (ad.add j)=some u:=λj u hj=>by
 have hl:=h.len
 have hjl:=(List.getElem?_eq_some_iff.1 hj).1
 rw [shc_len] at hjl
 have hi:j/2<l.length:=by omega
 have h1:=shc_get l (j/2) hi
 have h2:=h.cell ad rfl (j/2) (by omega)
 rcases Nat.mod_two_eq_zero_or_one j with e | e
 ·have ej:j=j/2*2:=by omega
  rw [<- ej] at h1 h2
  rw [h1.1] at hj
  rw [h2.1];exact hj
 ·have ej:j=j/2*2+1:=by omega
  rw [<- ej] at h1 h2
  rw [h1.2] at hj
  rw [h2.2];exact hj
theorem wpList_appSS {P:Program} {T E:TypeId} (hT:P.underlying T=some (.slice E)) (info:(P.info? E).map (λi=>(i.zero,i.size,i.bytes))=some (some (.agg #[.int .i64 0,.int .u64 0]),2,16)) {w:World} {ops:Array Oper} {rest:List Oper} {o:Oper} {a:Act} {Q:Exit->Act->World->Prop} (hgd:o.guard=none) (s x:Operand) (ho:o.op = .call { callee:=.builtin .append,args:=#[s,x],argTypes:=#[T,T] }) (base:Nat) (v:Value) (n:Nat) (l:List (Int×Int)) (hs:a.eval s=v) (hown:w.ownsRow base E 2 v n (shc l)) (a2 n2 c2 l2) (hR:RdS w a2 n2 c2 l2) (hx:a.eval x = .slice a2 n2 c2) (hn:n+n2<=1000) (hbase:base<=w.heap.size) (h:∀v' w',w'.ownsRow base E 2 v' (n+n2) (shc (l++l2))->Below base w w'->wpList P ops Q rest (a.put o.dst v') w'):wpList P ops Q (o :: rest) a w:=by
 obtain ⟨i0,hi,ae,af,ag⟩:=info_parts info;have hl:=hR.len;cases a2 with
 | none=>
  have hc:=hR.nil rfl;have ah:=hR.cap;obtain rfl:n2=0:=by omega
  subst hc;obtain rfl:l2 = []:=List.eq_nil_of_length_eq_zero hl;refine wpList_append_own_none hgd s x T ho base E i0 2 hT hi _ n _ hs hown hx ?_;exact h v w (by rw [List.append_nil];exact hown) (Below.refl _ _)
 | some ad=>
  refine wpList_append_own _ hgd s x T ho base E i0 (.agg #[.int .i64 0,.int .u64 0]) 2 16 hT hi ae af ag rfl (by decide) _ n _ hs hown ad n2 c2 (shc l2) hx (by rw [shc_len,hl]) hR.news (shc_one l2) (by unfold maxLen;omega) (by omega) hbase ?_;intro v' w' aa ab _;exact h v' w' (by rw [shc_app];exact aa) ((Below.refl _ _).grown ab hbase (λk hk=>(hown.lt k hk).1))
theorem own_apart {w:World} {B1 B2 n1 n2 z1 z2:Nat} {E1 E2:TypeId} {v1 v2:Value} {xs ys:List Value} (h1:w.ownsRow B1 E1 z1 v1 n1 xs) (h2:w.ownsRow B2 E2 z2 v2 n2 ys) (hE:E1≠E2):v2.ownBlock=none\/v2.ownBlock≠v1.ownBlock:=by
 rcases h2.2 with ⟨rfl,_⟩ | ⟨g,ae,af,rfl,_,hg,_⟩
 ·exact .inl rfl
 ·right;rcases h1.2 with ⟨rfl,_⟩ | ⟨g',ab,ad,rfl,_,aa,_⟩
  ·simp [Value.ownBlock]
  ·intro e;simp [Value.ownBlock] at e;subst e;rw [hg] at aa;simp only [Option.some.injEq,Obj.cells.injEq] at aa;exact hE aa.2.1.symm
def slen:Value->Nat
 | .slice _ n _=>n
 | _=>0
end
section
open Go.RowKit
theorem Rd.take {w a n c xs} (h:Rd w a n c xs) {k:Nat} (hk:k<=n):Rd w a k c (xs.take k):=by
 refine ⟨by have:=h.len;simp;omega,by have:=h.cap;omega,h.max,λx hx=>h.bd x (List.mem_of_mem_take hx),h.nil,λx hx i hi=>?_⟩
 rw [h.cell x hx i (by omega)];congr 2;simp [hi]
end
section
open Crm Go.RowKit
def BlkB (w:World) (g:Nat) (M:List Bool):Prop:=w.heap[g]? = some (.cells (M.map Value.bool).toArray 215 (0,0))
theorem BlkB.lt {w g M} (h:BlkB w g M):g<w.heap.size:=(Array.getElem?_eq_some_iff.1 h).1
theorem BlkB.cell {w g M} (h:BlkB w g M) {i:Nat} (hi:i<M.length):w.cell? ⟨g,i,none⟩=some (.bool (M.getD i false)):=by
 rw [cell_of_row w g i _ _ (0,0) h];simp [List.getElem?_eq_getElem hi]
theorem BlkB.frozen {w g M} (h:BlkB w g M) (i:Nat):w.frozen? ⟨g,i,none⟩=false:=frozen_of_row w g i _ _ h
theorem BlkB.set {w g M} (h:BlkB w g M) (i:Nat) (v:Bool):BlkB (w.setCell ⟨g,i,none⟩ (.bool v)) g (M.set i v):=by
 have:=heap_setCell_same w g i _ _ (.bool v) h;unfold BlkB;rw [this];simp [List.map_set]
theorem BlkB.below {w w' B g M} (h:BlkB w g M) (hb:Below B w w') (hg:g<B):BlkB w' g M:=by
 unfold BlkB;rw [hb.block g hg];exact h
theorem cJoinO (g:Nat) (x:Int) (w) (h:x<1\/9<x):
  Calls Tryz.prog 184 #[.pointer (some ⟨g,0,none⟩),.int .i64 x] w λe w'=>e = .returned (.bool false)/\w'=w:=by
 by_cases h1:x<1
 ·clear h;go_enter Tryz.func184,Tryz.ntmps184;go_wp2;go_ret;exact ⟨rfl,rfl⟩
 ·have h2:9<x:=by omega
  clear h;go_enter Tryz.func184,Tryz.ntmps184;go_wp2;go_ret;exact ⟨rfl,rfl⟩
theorem cJoinN (g) (k:Nat) (M w) (h:BlkB w g M) (hM:M.length=10) (h1:1<=k) (h9:k<=9) (hk:M.getD k false=true):
  Calls Tryz.prog 184 #[.pointer (some ⟨g,0,none⟩),.int .i64 k] w λe w'=>e = .returned (.bool false)/\w'=w:=by
 have hc:=h.cell (i:=k) (by omega);rw [hk] at hc;have aa:=h.lt;go_enter Tryz.func184,Tryz.ntmps184;go_wp2;go_ret;exact ⟨rfl,rfl⟩
theorem cJoinY (g) (k:Nat) (M w) (h:BlkB w g M) (hM:M.length=10) (h1:1<=k) (h9:k<=9) (hk:M.getD k false=false):
  Calls Tryz.prog 184 #[.pointer (some ⟨g,0,none⟩),.int .i64 k] w λe w'=>e = .returned (.bool true)/\w'=w.setCell ⟨g,k,none⟩ (.bool true):=by
 have hc:=h.cell (i:=k) (by omega);rw [hk] at hc;have aa:=h.lt;have ab:=h.frozen k;go_enter Tryz.func184,Tryz.ntmps184;go_wp2;go_ret;exact ⟨rfl,rfl⟩
structure Mk (f:Nat->Int) (k:Nat) (M:List Bool):Prop where
 len:M.length=10
 mark:∀p:Nat,1<=p->p<=9->(M.getD p false=true↔∃j,j<k/\f j=(p:Int))
 dis:dis f k
theorem mk_start (f:Nat->Int):Mk f 0 (List.replicate 10 false):=by
 refine ⟨rfl,λp _ h9=>?_,dis_zero f⟩
 have:(List.replicate 10 false).getD p false=false:=by
  rw [List.getD_eq_getElem?_getD,List.getElem?_replicate];split <;> rfl
 rw [this];constructor
 ·intro h;cases h
 ·rintro ⟨j,hj,_⟩;omega
theorem mk_step {f k M} {p:Nat} (h:Mk f k M) (hp:f k=(p:Int)) (h1:1<=p) (h9:p<=9) (hm:M.getD p false=false):Mk f (k+1) (M.set p true):=by
 have aa:∀j,j<k->f j≠(p:Int):=λj hj e=>by
  have:=(h.mark p h1 h9).2 ⟨j,hj,e⟩;rw [hm] at this;cases this
 refine ⟨by rw [List.length_set];exact h.len,λq q1 q9=>?_,dis_succ h.dis hp (by omega) (by omega) aa⟩
 have hl:=h.len;by_cases e:q=p
 ·subst e;have:(M.set q true).getD q false=true:=by simp [show q<M.length by omega]
  rw [this];exact ⟨λ_=>⟨k,by omega,hp⟩,λ_=>rfl⟩
 ·have:(M.set p true).getD q false=M.getD q false:=by
   simp [show ¬ p=q from λe'=>e e'.symm]
  rw [this,h.mark q q1 q9];constructor
  ·rintro ⟨j,hj,e⟩;exact ⟨j,by omega,e⟩
  ·rintro ⟨j,hj,e'⟩;by_cases ej:j=k
   ·subst ej;rw [hp] at e';omega
   ·exact ⟨j,by omega,e'⟩
theorem mk_twice {f k} {n:Nat} {M} {p:Nat} (h:Mk f k M) (hk:k<n) (hp:f k=(p:Int)) (h1:1<=p) (h9:p<=9) (hm:M.getD p false=true):¬ Go.Proofs.YtljlioglpaogdacGreatDoor.dis f n:=λhd=>by
 obtain ⟨j,hj,e⟩:=(h.mark p h1 h9).1 hm
 exact (hd k hk).2 j hj (by rw [e,hp])
theorem mk_out {f:Nat->Int} {k n:Nat} {x:Int} (hk:k<n) (hx:f k=x) (h:x<1\/9<x):¬ Go.Proofs.YtljlioglpaogdacGreatDoor.dis f n:=λhd=>by
 have:=(hd k hk).1
 omega
theorem cCheckA (a n c) (t:Int) (w) (h:t<0\/4<t):
  Calls Tryz.prog 153 #[.int .i64 t,.slice a n c] w λe w'=>e = .returned (.int .i64 1)/\w'=w:=by
 by_cases h1:t<0
 ·clear h;go_enter Tryz.func153,Tryz.ntmps153;go_wp2;go_ret;exact ⟨rfl,rfl⟩
 ·have h2:4<t:=by omega
  clear h;go_enter Tryz.func153,Tryz.ntmps153;go_wp2;go_ret;exact ⟨rfl,rfl⟩
theorem cCheckB (a n c l) (t:Int) (w) (h:RdS w a n c l) (ht0:0<=t) (ht4:t<=4):
  Calls Tryz.prog 153 #[.int .i64 t,.slice a n c] w λe w'=>∃r,e = .returned (.int .i64 r)/\She l n t r/\Below w.heap.size w w':=by
 have an:=h.cap;have ag:=h.max;unfold maxLen at ag;go_enter Tryz.func153,Tryz.ntmps153;go_wp2;go_loopw [16] (λi wr=>∃(k:Nat) (M:List Bool),k<=n/\i = .int .i64 k/\Hid (Mk (fa l) k M)/\BlkB wr w.heap.size M/\Below w.heap.size w wr) (λi _=>n-(intOf i).toNat)
 case atStart=>exact ⟨0,_,Nat.zero_le _,rfl,mk_start _,heap_alloc_new w _,(Below.refl _ _).alloc (Nat.le_refl _) _⟩
 case round=>
  obtain ⟨k,M,hk,rfl,HM,hB,aa⟩:=hrel;have ah:=aa.size;have af:=HM.out.len;by_cases hlt:k<n
  ·obtain ⟨b,o,x,y,rfl,ap,HX,HY,aq,ar,au,av,ai,aj⟩:=(h.below aa).one hlt;have ao:=cell_alloc0 wr (.int .i64 x) (.int .u64 y) 74;have ad:BlkB (wr.alloc (.cells #[.int .i64 x,.int .u64 y] 74)) w.heap.size M:=hB.below ((Below.refl _ _).alloc (Nat.le_refl _) _) hB.lt;have ab:=aa.alloc ah (.cells #[.int .i64 x,.int .u64 y] 74);go_wp2_with fail;generalize wr.alloc (.cells #[.int .i64 x,.int .u64 y] 74)=W at *;clear ai aj hB aa;by_cases hx:x<1\/9<x
   ·have HN:Hid (She l n t 5):=Or.inr (Or.inl ⟨⟨ht0,ht4⟩,mk_out hlt HX.out hx,rfl⟩);refine (cJoinO _ _ _ hx).mono ?_;rintro e w' ⟨rfl,hw⟩;have hw:=hw.symm;subst hw;clear hx;go_wp2;go_ret;exact ⟨5,rfl,HN.out,ab⟩
   ·obtain ⟨p,rfl⟩:∃p:Nat,x=p:=⟨x.toNat,by omega⟩;cases hm:M.getD p false with
    | true=>
     have HN:Hid (She l n t 5):=Or.inr (Or.inl ⟨⟨ht0,ht4⟩,mk_twice HM.out hlt HX.out (by omega) (by omega) hm,rfl⟩);refine (cJoinN _ _ _ _ ad af (by omega) (by omega) hm).mono ?_;rintro e w' ⟨rfl,hw⟩;have hw:=hw.symm;subst hw;clear hm;go_wp2;go_ret;exact ⟨5,rfl,HN.out,ab⟩
    | false=>
     have ak:Hid (Mk (fa l) (k+1) (M.set p true)):=mk_step HM.out HX.out (by omega) (by omega) hm;refine (cJoinY _ _ _ _ ad af (by omega) (by omega) hm).mono ?_;rintro e w' ⟨rfl,rfl⟩;have al:=ad.set p true;have ae:=below_grown ab (grown_set W w.heap.size p (.bool true)) (Nat.le_refl _);generalize W.setCell ⟨w.heap.size,p,none⟩ (.bool true)=W3 at *;clear hm;go_wp2;go_roundw
     case rel=>exact ⟨k+1,_,by omega,by go_num,ak,al,ae⟩
     case measure=>simp [intOf];omega
  ·have am:k=n:=by omega
   subst am;by_cases hkt:(k:Int)<=t
   ·have HN:Hid (She l k t 4):=Or.inr (Or.inr (Or.inl ⟨⟨ht0,ht4⟩,HM.out.dis,hkt,rfl⟩));go_wp2;go_ret;exact ⟨4,rfl,HN.out,aa⟩
   ·have HN:Hid (She l k t 0):=Or.inr (Or.inr (Or.inr ⟨⟨ht0,ht4⟩,HM.out.dis,by omega,rfl⟩));go_wp2;go_ret;exact ⟨0,rfl,HN.out,aa⟩
theorem cCheckS (a n c l t w) (h:RdS w a n c l):
  Calls Tryz.prog 153 #[.int .i64 t,.slice a n c] w λe w'=>∃r,e = .returned (.int .i64 r)/\She l n t r/\Below w.heap.size w w':=by
 by_cases ht:t<0\/4<t
 ·refine (cCheckA _ _ _ _ _ ht).mono ?_;rintro e w' ⟨rfl,rfl⟩;exact ⟨1,rfl,Or.inl ⟨ht,rfl⟩,Below.refl _ _⟩
 ·exact cCheckB _ _ _ _ _ _ h (by omega) (by omega)
end
end Go.Proofs.YtljlioglpaogdacGreatDoor

/- TextM ParM ReadM IdxC ReadP TextC KindC BackM CutM SplitC BackN ParN -/
import Derived.Test.YtljlioglpaogdacGreatDoorToBldC
import Derived.Test.YtljlioglpaogdacGreatDoorToRNumC
import Derived.Lib.ItoaLen
import Derived.Deep.AppendLies
import Derived.Lib.SplitLaws
namespace Go.Proofs.YtljlioglpaogdacGreatDoor
set_option linter.unusedVariables false
set_option maxRecDepth 100000
set_option maxHeartbeats 8000000
section
open Crm Go.RowKit
theorem itb_size (n:Int) (h0: -9223372036854775808<=n) (h1:n<=9223372036854775807):(itb n).size<=21:=by
 have:=Lib.itoa_length_le n h0 h1;have e:(itb n).size=(Lib.itoa n).length:=by simp [itb,ByteArray.size]
 omega
theorem add_run {P:Program} (x y:ByteArray) (h:x.size+y.size<=1000000) (w:World):(Op.stringOp .add x y).run P w = .ok (.string (x++y)) w:=by
 rw [run_string_add_if,if_neg (by omega)]
def vbs:List ByteArray:=[⟨#[]⟩,⟨#[105,110,112,117,116]⟩,⟨#[99,111,110,115,116]⟩,⟨#[97,100,100]⟩,⟨#[115,117,98]⟩,⟨#[109,117,108]⟩,⟨#[115,99,97,108,101]⟩]
def vb (k:Nat):ByteArray:=vbs.getD k mt
def Vb (w:World):Prop:=∀i,i<7->w.cell? ⟨1,i,none⟩=some (.string (vb i))
theorem Vb.below {w w'} (h:Vb w) (hb:Below w.heap.size w w'):Vb w':=λi hi=>by
 rw [hb.cell (World.block_lt_of_cell? w _ (h i hi))]
 exact h i hi
theorem vb_size (k:Nat) (hk:k<7):(vb k).size<=5:=by
 have:k=0\/k=1\/k=2\/k=3\/k=4\/k=5\/k=6:=by omega
 rcases this with rfl | rfl | rfl | rfl | rfl | rfl | rfl <;> decide
def arg (g:Gt):ByteArray:=
 if g.k=1 then ⟨#[32]⟩++itb g.a else if g.k=2 then ⟨#[32]⟩++itb (nm g.n) else if g.k=6 then ⟨#[32]⟩++itb g.a++⟨#[32]⟩++itb (nm g.n) else ⟨#[32]⟩++itb g.a++⟨#[32]⟩++itb g.b
def gln (t:ByteArray) (g:Gt):ByteArray:=t++vb g.k.toNat++arg g++⟨#[10]⟩
def gtx (G:List Gt):Nat->ByteArray
 | 0=>⟨#[]⟩
 | k+1=>gln (gtx G k) (gt G k)
def otx (t:ByteArray) (O:List Int):Nat->ByteArray
 | 0=>t
 | j+1=>otx t O j++(⟨#[111,117,116,32]⟩++itb (O.getD j 0)++⟨#[10]⟩)
theorem sp_size:(⟨#[32]⟩:ByteArray).size=1:=rfl
theorem nl_size:(⟨#[10]⟩:ByteArray).size=1:=rfl
theorem out_size:(⟨#[111,117,116,32]⟩:ByteArray).size=4:=rfl
theorem arg_size {i g} (h:okg i g) (hi:i<=30):(arg g).size<=44:=by
 have hn:=nm_bd g.n;have h2:=itb_size (nm g.n) (by omega) (by omega);have sp:=sp_size;unfold arg;rcases h with ⟨h1,h3,_,_⟩ | ⟨h1,_,_⟩ | ⟨h1,h3,_⟩ | ⟨h1,h3,h4,_⟩
 ·have:=itb_size g.a (by omega) (by omega);rw [if_pos h1,ByteArray.size_append];omega
 ·rw [if_neg (by omega),if_pos h1,ByteArray.size_append];omega
 ·have:=itb_size g.a (by omega) (by omega);rw [if_neg (by omega),if_neg (by omega),if_pos h1,ByteArray.size_append,ByteArray.size_append,ByteArray.size_append];omega
 ·have:=itb_size g.a (by omega) (by omega);have:=itb_size g.b (by omega) (by omega);rw [if_neg (by omega),if_neg (by omega),if_neg (by omega),ByteArray.size_append,ByteArray.size_append,ByteArray.size_append];omega
theorem gtx_size {G n} (h:okG G n) (hn:n<=30):∀k,k<=n->(gtx G k).size<=50*k
 | 0,_=>Nat.le_refl 0
 | k+1,hk=>by
  have ih:=gtx_size h hn k (by omega)
  have ho:=h k (by omega)
  have h1:=arg_size ho (by omega)
  have h2:(gt G k).k.toNat<7:=by
   unfold okg at ho;omega
  have h3:=vb_size _ h2;have nl:=nl_size;rw [gtx,gln,ByteArray.size_append,ByteArray.size_append,ByteArray.size_append];omega
theorem otx_size {t:ByteArray} {O n m} (h:okO O n m) (hn:n<=30):∀k,k<=m->(otx t O k).size<=t.size+30*k
 | 0,_=>Nat.le_refl _
 | k+1,hk=>by
  have ih:=otx_size (t:=t) h hn k (by omega)
  have ho:=h k (by omega)
  have h1:=itb_size (O.getD k 0) (by omega) (by omega)
  have nl:=nl_size
  have ou:=out_size
  rw [otx,ByteArray.size_append,ByteArray.size_append,ByteArray.size_append]
  omega
end
section
open Crm
def wds (t:ByteArray):List ByteArray:=pcs t 32 t.size
def ags (t:ByteArray):List ByteArray:=(wds t).drop 1
def agn (t:ByteArray) (i:Nat):Int:=dgn (tx (ags t) i) (tx (ags t) i).size
def outB:ByteArray:=⟨#[111,117,116]⟩
def arn (k:Nat):Nat:=[0,1,1,2,2,2,2].getD k 0
def gof (k:Nat) (t:ByteArray):Gt:=
 if k=1 then ⟨1,agn t 0,0,0⟩ else if k=2 then ⟨2,0,0,agn t 0⟩ else if k=6 then ⟨6,agn t 0,0,agn t 1⟩ else ⟨k,agn t 0,agn t 1,0⟩
def Lng (t:ByteArray) (g:Gt):Prop:=∃k,(1<=k/\k<7)/\tx (wds t) 0=vb k/\(ags t).length=arn k/\okn (ags t) (arn k)/\g=gof k t
def Lno (t:ByteArray) (x:Int):Prop:=tx (wds t) 0=outB/\(ags t).length=1/\okn (ags t) 1/\x=agn t 0
theorem vb_inj:∀i,i<7->∀j,j<7->vb i=vb j->i=j:=by decide +kernel
theorem vb_out:∀i,i<7->vb i≠outB:=by decide +kernel
theorem Lng.one {t g h} (a:Lng t g) (b:Lng t h):g=h:=by
 obtain ⟨k,hk,e1,_,_,rfl⟩:=a;obtain ⟨j,hj,e2,_,_,rfl⟩:=b;obtain rfl:=vb_inj k hk.2 j hj.2 (e1.symm.trans e2);rfl
theorem Lng.no {t g x} (a:Lng t g) (b:Lno t x):False:=by
 obtain ⟨k,hk,e1,_⟩:=a;exact vb_out k hk.2 (e1.symm.trans b.1)
def Rds (l:List ByteArray):Nat->List Gt->List Int->Prop
 | 0,G,O=>G = []/\O = []
 | i+1,G,O=>∃G0 O0,Rds l i G0 O0/\((∃g,Lng (tx l i) g/\O0 = []/\G=G0 ++ [g]/\O = [])\/(∃x,Lno (tx l i) x/\G=G0/\O=O0 ++ [x]))
theorem Rds.one {l:List ByteArray}:∀{i:Nat} {G H:List Gt} {O Q:List Int},Rds l i G O->Rds l i H Q->G=H/\O=Q
 | 0,_,_,_,_,h,k=>by obtain ⟨rfl,rfl⟩:=h;obtain ⟨rfl,rfl⟩:=k;exact ⟨rfl,rfl⟩
 | i+1,_,_,_,_,h,k=>by
  obtain ⟨G0,O0,h0,h1⟩:=h
  obtain ⟨H0,Q0,k0,k1⟩:=k
  obtain ⟨rfl,rfl⟩:=h0.one k0
  rcases h1 with ⟨g,a,_,rfl,rfl⟩ | ⟨x,a,rfl,rfl⟩ <;> rcases k1 with ⟨g',b,_,rfl,rfl⟩ | ⟨x',b,rfl,rfl⟩
  ·rw [a.one b];exact ⟨rfl,rfl⟩
  ·exact (a.no b).elim
  ·exact (b.no a).elim
  ·rw [a.2.2.2,b.2.2.2];exact ⟨rfl,rfl⟩
theorem Rds.down {l:List ByteArray}: ∀ {i j : Nat} {G : List Gt} {O : List Int}, Rds l i G O -> j <= i -> ∃ G0 O0, Rds l j G0 O0
  | 0, j, G, O, h, hj => by obtain rfl : j = 0 := by omega
                            exact ⟨G, O, h⟩
  | i + 1, j, G, O, h, hj => by
    by_cases e : j = i + 1
    · subst e; exact ⟨G, O, h⟩
    · obtain ⟨G0, O0, h0, _⟩ := h
      exact h0.down (by omega)
def Nok (t:ByteArray) (O:List Int):Prop:=¬ ((∃g,Lng t g/\O = [])\/∃x,Lno t x)
theorem Nok.stop {l:List ByteArray} {i:Nat} {G H:List Gt} {O Q:List Int} (h:Rds l i G O) (k:Nok (tx l i) O) (r:Rds l (i+1) H Q):False:=by
 obtain ⟨G0,O0,h0,h1⟩:=r;obtain ⟨_,rfl⟩:=h.one h0;rcases h1 with ⟨g,a,e,_⟩ | ⟨x,a,_⟩
 ·exact k (.inl ⟨g,a,e⟩)
 ·exact k (.inr ⟨x,a⟩)
def lns (s:ByteArray):List ByteArray:=pcs s 10 s.size
def lnn (s:ByteArray):Nat:=(lns s).length-1
theorem lns_len (s:ByteArray):(lns s).length=lnn s+1:=by
 have:=pcs_len s 10 s.size;unfold lnn lns;omega
def Par (s:ByteArray) (G:List Gt) (O:List Int) (at_:Nat) (r:Int):Prop:=
 (2048<s.size/\G = []/\O = []/\at_=0/\r=2)\/
 (s.size<=2048/\((∃i G0 O0,i<lnn s/\Rds (lns s) i G0 O0/\Nok (tx (lns s) i) O0/\G = []/\O = []/\at_=i+1/\r=3)\/
  (∃G0 O0,Rds (lns s) (lnn s) G0 O0/\((tx (lns s) (lnn s)≠mt/\G = []/\O = []/\at_=lnn s+1/\r=3)\/
   (tx (lns s) (lnn s)=mt/\at_=0/\Cke G0 O0 G0.length O0.length r/\((r≠0/\G = []/\O = [])\/(r=0/\G=G0/\O=O0)))))))
theorem Par.one {s G H O Q m n r q} (h:Par s G O m r) (k:Par s H Q n q):G=H/\O=Q/\m=n/\r=q:=by
 rcases h with ⟨h0,rfl,rfl,rfl,rfl⟩ | ⟨h0,h⟩ <;> rcases k with ⟨k0,rfl,rfl,rfl,rfl⟩ | ⟨k0,k⟩
 ·exact ⟨rfl,rfl,rfl,rfl⟩
 ·exfalso;omega
 ·exfalso;omega
 ·rcases h with ⟨i,G0,O0,hi,h1,h2,rfl,rfl,rfl,rfl⟩ | ⟨G0,O0,h1,h2⟩ <;> rcases k with ⟨j,H0,Q0,hj,k1,k2,rfl,rfl,rfl,rfl⟩ | ⟨H0,Q0,k1,k2⟩
  ·obtain rfl:i=j:=by
    rcases Nat.lt_trichotomy i j with e | e | e
    ·obtain ⟨_,_,x⟩:=k1.down (show i+1<=j from e);exact (h2.stop h1 x).elim
    ·exact e
    ·obtain ⟨_,_,x⟩:=h1.down (show j+1<=i from e);exact (k2.stop k1 x).elim
   exact ⟨rfl,rfl,rfl,rfl⟩
  ·obtain ⟨_,_,x⟩:=k1.down (show i+1<=lnn s from hi);exact (h2.stop h1 x).elim
  ·obtain ⟨_,_,x⟩:=h1.down (show j+1<=lnn s from hj);exact (k2.stop k1 x).elim
  ·obtain ⟨rfl,rfl⟩:=h1.one k1;rcases h2 with ⟨a,rfl,rfl,rfl,rfl⟩ | ⟨a,rfl,c,d⟩ <;> rcases k2 with ⟨a',rfl,rfl,rfl,rfl⟩ | ⟨a',rfl,c',d'⟩
   ·exact ⟨rfl,rfl,rfl,rfl⟩
   ·exact absurd a' a
   ·exact absurd a a'
   ·obtain rfl:=c.one c';rcases d with ⟨d1,rfl,rfl⟩ | ⟨d1,rfl,rfl⟩ <;> rcases d' with ⟨e1,rfl,rfl⟩ | ⟨e1,rfl,rfl⟩
    ·exact ⟨rfl,rfl,rfl,rfl⟩
    ·exact absurd e1 d1
    ·exact absurd d1 e1
    ·exact ⟨rfl,rfl,rfl,rfl⟩
theorem Par.bd {s G O n r} (h:Par s G O n r):0<=r/\r<=3:=by
 rcases h with ⟨_,_,_,_,rfl⟩ | ⟨_,⟨_,_,_,_,_,_,_,_,_,rfl⟩ | ⟨_,_,_,⟨_,_,_,_,rfl⟩ | ⟨_,_,c,_⟩⟩⟩
 ·omega
 ·omega
 ·omega
 ·have:=c.bd;omega
end
section
open Crm Go.RowKit
theorem step_appZ {P:Program} {T E:TypeId} {z0:Value} {z by_:Nat} (hT:P.underlying T=some (.slice E)) (info:(P.info? E).map (λi=>(i.zero,i.size,i.bytes))=some (some z0,z,by_)) (hz:z0.cells.size=z) (hzp:0<z) (hby:by_<=100) (w:World) {w1:World} {ops:Array Oper} {o:Oper} {a:Act} {K:Act->World->Prop} {Q:Exit->Act->World->Prop} {F:Prop} (hgd:o.guard=none) (s x:Operand) (ho:o.op = .call { callee:=.builtin .append,args:=#[s,x],argTypes:=#[T,T] }) (base:Nat) (v:Value) (n:Nat) (xs:List Value) (hs:a.eval s=v) (hown:w.ownsRow base E z v n xs) (ys:List Value) (hyl:ys.length=z) (hy1:∀u ∈ ys,u.oneCell'=true) (hx:a.eval x = .slice (some ⟨w.heap.size,0,none⟩) 1 1) (hw1:w1=w.alloc (.cells ys.toArray E)) (hn:n<=1000000) (hbase:base<=w.heap.size) (h:∀g cap w',w'.ownsRow base E z (.slice (some ⟨g,0,none⟩) (n+1) cap) (n+1) (xs++ys)->w.grownBy w' v.ownBlock->base<=g->K (a.put o.dst (.slice (some ⟨g,0,none⟩) (n+1) cap)) w'):
  if Region.wanted o (yielded ops a.tmps)=true then Oper.wp P o a w1 K Q else F:=by
 subst hw1;obtain ⟨i0,hi,ad,ae,af⟩:=info_parts info;refine step_append_lies _ hgd s x T ho base E i0 z0 z by_ hT hi ad ae af hz hzp v n _ hs (hown.alloc _) ⟨w.heap.size,0,none⟩ 1 1 ys hx (by rw [hyl,Nat.one_mul]) ?_ hy1 (by decide) (by unfold maxLen;omega) ?_ (by simp;omega) _ rfl ?_
 ·intro j u hj;exact World.news_of_block (heap_alloc_new w (.cells ys.toArray E)) j u (by simpa using hj)
 ·have:(n+1)*by_<=1000001*100:=Nat.mul_le_mul (by omega) hby
  omega
 ·intro g cap w' ab aa _ _;refine h g cap w' ab ⟨aa.os,aa.tape,aa.output,?_,λk hk hne=>?_⟩ (ab.lt g rfl).1
  ·have:=aa.size;simp at this;omega
  ·rw [aa.block k (by simp;omega) hne];exact Below.heap_alloc _ _ _ hk
theorem infoGt:(Tryz.prog.info? 138).map (λi=>(i.zero,i.size,i.bytes))=some (some (.agg #[.int .i64 0,.int .i64 0,.int .i64 0,.int .u64 0]),4,32):=by kernel_rfl
theorem infoIt:(Tryz.prog.info? 3).map (λi=>(i.zero,i.size,i.bytes))=some (some (.int .i64 0),1,8):=by kernel_rfl
theorem gcs_snoc (G:List Gt) (g:Gt):gcs G ++ [.int .i64 g.k,.int .i64 g.a,.int .i64 g.b,.int .u64 g.n]=gcs (G ++ [g]):=by simp [gcs]
structure Crd (w:World) (B gc:Nat) (ag:Option Addr) (n cg:Nat) (ao:Option Addr) (m co:Nat) (G:List Gt) (O:List Int):Prop where
 box:CBox w gc ag n cg ao m co
 ln:G.length=n
 lo:O.length=m
 own:w.ownsRow B 138 4 (.slice ag n cg) n (gcs G)
 ins:w.ownsRow B 3 1 (.slice ao m co) m (zns O)
theorem own_belowZ {w:World} {w'} {base n z:Nat} {E:TypeId} {v:Value} {xs:List Value} (h:w.ownsRow base E z v n xs) (hb:Below w.heap.size w w'):w'.ownsRow base E z v n xs:=
 h.kept (grown_below hb none) (by cases h':v.ownBlock <;> simp)
theorem Crd.below {w w' B gc ag n cg ao m co G O} (h:Crd w B gc ag n cg ao m co G O) (hb:Below w.heap.size w w'):Crd w' B gc ag n cg ao m co G O:=
 ⟨h.box.below hb h.box.lt,h.ln,h.lo,own_belowZ h.own hb,own_belowZ h.ins hb⟩
theorem box_apart {w gc ag n cg ao m co} {B k z:Nat} {E:TypeId} {v:Value} {xs:List Value} (h:CBox w gc ag n cg ao m co) (ho:w.ownsRow B E z v k xs) (hE:E≠89):some gc≠v.ownBlock:=by
 rcases ho.2 with ⟨rfl,_⟩ | ⟨g,aa,ab,rfl,_,hg,_⟩
 ·simp [Value.ownBlock]
 ·intro e;have e':gc=g:=by simpa [Value.ownBlock] using e
  subst e';unfold CBox at h;rw [hg] at h;simp only [Option.some.injEq,Obj.cells.injEq] at h;exact hE h.2.1
theorem CBox.set0 {w gc ag n cg ao m co} (h:CBox w gc ag n cg ao m co) (a:Option Addr) (n' c:Nat):CBox (w.setCell ⟨gc,0,none⟩ (.slice a n' c)) gc a n' c ao m co:=by
 have:=heap_setCell_same w gc 0 _ _ (.slice a n' c) h;unfold CBox;rw [this];rfl
theorem CBox.set1 {w gc ag n cg ao m co} (h:CBox w gc ag n cg ao m co) (a:Option Addr) (n' c:Nat):CBox (w.setCell ⟨gc,1,none⟩ (.slice a n' c)) gc ag n cg a n' c:=by
 have:=heap_setCell_same w gc 1 _ _ (.slice a n' c) h;unfold CBox;rw [this];rfl
theorem CBox.frozen {w gc ag n cg ao m co} (h:CBox w gc ag n cg ao m co) (i:Nat):w.frozen? ⟨gc,i,none⟩=false:=frozen_of_row w gc i _ _ h
theorem eGC:(138:TypeId)≠89:=by decide
theorem eIC:(3:TypeId)≠89:=by decide
theorem eGI:(138:TypeId)≠3:=by decide
theorem eSG:(9:TypeId)≠138:=by decide
theorem eSI:(9:TypeId)≠3:=by decide
theorem eSC:(9:TypeId)≠89:=by decide
theorem Crd.gate {w} {w7:World} {B gc} {g7 c7:Nat} {ag n cg ao m co G O} {x:Gt} (h:Crd w B gc ag n cg ao m co G O) (ho:w7.ownsRow B 138 4 (.slice (some ⟨g7,0,none⟩) (n+1) c7) (n+1) (gcs (G ++ [x]))) (hg:w.grownBy w7 (Value.slice ag n cg).ownBlock):
  Crd (w7.setCell ⟨gc,0,none⟩ (.slice (some ⟨g7,0,none⟩) (n+1) c7)) B gc (some ⟨g7,0,none⟩) (n+1) c7 ao m co (G ++ [x]) O:=by
 have aa:=h.box.grown hg (box_apart h.box h.own eGC);have ab:=h.ins.kept hg (own_apart h.own h.ins eGI);have ad:w7.grownBy (w7.setCell ⟨gc,0,none⟩ (.slice (some ⟨g7,0,none⟩) (n+1) c7)) (some gc):=grown_set _ _ _ _;have k1:=box_apart aa ho eGC;have k2:=box_apart aa ab eIC;exact ⟨aa.set0 _ _ _,by simp [h.ln],h.lo,ho.kept ad (.inr (λe=>k1 e.symm)),ab.kept ad (.inr (λe=>k2 e.symm))⟩
theorem Crd.out {w} {w7:World} {B gc} {g7 c7:Nat} {ag n cg ao m co G O} {x:Int} (h:Crd w B gc ag n cg ao m co G O) (ho:w7.ownsRow B 3 1 (.slice (some ⟨g7,0,none⟩) (m+1) c7) (m+1) (zns (O ++ [x]))) (hg:w.grownBy w7 (Value.slice ao m co).ownBlock):
  Crd (w7.setCell ⟨gc,1,none⟩ (.slice (some ⟨g7,0,none⟩) (m+1) c7)) B gc ag n cg (some ⟨g7,0,none⟩) (m+1) c7 G (O ++ [x]):=by
 have aa:=h.box.grown hg (box_apart h.box h.ins eIC);have ab:=h.own.kept hg (own_apart h.ins h.own (λe=>eGI e.symm));have ad:w7.grownBy (w7.setCell ⟨gc,1,none⟩ (.slice (some ⟨g7,0,none⟩) (m+1) c7)) (some gc):=grown_set _ _ _ _;have k1:=box_apart aa ho eIC;have k2:=box_apart aa ab eGC;exact ⟨aa.set1 _ _ _,h.ln,by simp [h.lo],ab.kept ad (.inr (λe=>k2 e.symm)),ho.kept ad (.inr (λe=>k1 e.symm))⟩
theorem own_beside {w w7:World} {B:Nat} {gc} {k z r z2:Nat} {E E2:TypeId} {v v2:Value} {xs ys:List Value} {u:Value} {ag n cg ao m co} {i:Nat} (h:w.ownsRow B E z v k xs) (h2:w.ownsRow B E2 z2 v2 r ys) (hE:E2≠E) (hC:E≠89) (hg:w.grownBy w7 v2.ownBlock) (hb:CBox w7 gc ag n cg ao m co):
  (w7.setCell ⟨gc,i,none⟩ u).ownsRow B E z v k xs:=by
 have h7:=h.kept hg (own_apart h2 h hE);have k1:=box_apart hb h7 hC;exact h7.kept (grown_set _ _ _ _) (.inr (λe=>k1 e.symm))
theorem tl_yes {x y:ByteArray} (h:x=y):(x.toList==y.toList)=true:=by rw [h];simp
theorem tl_no {x y:ByteArray} (h:x≠y):(x.toList==y.toList)=false:=by
 rw [beq_eq_false_iff_ne];intro e;rw [ByteArray.toList_eq,ByteArray.toList_eq] at e;exact h (ByteArray.ext (Array.ext' e))
def Ixt (L:List ByteArray) (n:Nat) (x:ByteArray) (r:Int):Prop:=(∃k:Nat,k<n/\tx L k=x/\r=(k:Int))\/((∀j,j<n->tx L j≠x)/\r = -1)
theorem Ixt.bd {L n x r} (h:Ixt L n x r): -1<=r/\r<(n:Int):=by
 rcases h with ⟨k,hk,_,rfl⟩ | ⟨_,rfl⟩ <;> omega
theorem sIndexT (a n c L x w) (h:RdT w a n c L):
  Calls Tryz.prog 28 #[.slice a n c,.string x] w λe w'=>∃r,e = .returned (.int .i64 r)/\Ixt L n x r/\w'=w:=by
 have ae:=h.cap;have aa:=h.max;unfold maxLen at aa;go_enter Tryz.func28,Tryz.ntmps28;go_wp2;go_loop [8] (λq=>∃i:Nat,i<=n/\q = .int .i64 i/\Hid (∀j,j<i->tx L j≠x)) (λq=>n-(intOf q).toNat)
 case atStart=>exact ⟨0,Nat.zero_le _,rfl,λj hj=>by omega⟩
 case round=>
  obtain ⟨i,hi,rfl,HN⟩:=hrel;by_cases hlt:i<n
  ·obtain ⟨b,o,y,rfl,hb,HY,af,hc⟩:=h.one hlt;by_cases e:x=y
   ·have HE:Hid (Ixt L n x i):=.inl ⟨i,hlt,by rw [HY.out,e],rfl⟩;have he:=tl_yes e;clear e HN;go_wp2;go_ret;exact ⟨_,rfl,HE.out,rfl⟩
   ·have he:=tl_no e;have ab:Hid (∀j,j<i+1->tx L j≠x):=λj hj=>by
     by_cases ej:j=i
     ·rw [ej,HY.out];exact λe'=>e e'.symm
     ·exact HN.out j (by omega)
    clear e HN;go_wp2;go_round
    case rel=>exact ⟨i+1,by omega,by go_num,ab⟩
    case measure=>simp [intOf];omega
  ·have ad:i=n:=by omega
   subst ad;have HE:Hid (Ixt L i x (-1)):=.inr ⟨HN.out,rfl⟩;clear HN;go_wp2;go_ret;exact ⟨_,rfl,HE.out,rfl⟩
theorem Vb.rd {w} (h:Vb w):RdT w (some ⟨1,0,none⟩) 7 7 vbs:=by
 refine ⟨rfl,Nat.le_refl _,by decide,by simp,λi hi=>?_,λx hx i hi=>?_⟩
 ·have:=vb_size i hi;unfold vb at this;unfold tx;omega
 ·obtain rfl:=Option.some.inj hx;rw [Addr.add_lit,Nat.zero_add];exact h i hi
theorem RdT.sub1 {w} {g n:Nat} {c L} (h:RdT w (some ⟨g,0,none⟩) (n+1) c L):RdT w (subA (some ⟨g,0,none⟩) c 1) n (c-1) (L.drop 1):=by
 have hc:=h.cap;have hl:=h.len;obtain ⟨c',rfl⟩:∃c',c=c'+1:=⟨c-1,by omega⟩;unfold subA;by_cases e:c'+1=1
 ·rw [if_pos e];obtain rfl:c'=0:=by omega
  obtain rfl:n=0:=by omega
  exact ⟨by simp;omega,by omega,by unfold maxLen;omega,by simp,λi hi=>by omega,λx hx i hi=>by omega⟩
 ·rw [if_neg e];exact h.tail
theorem arn_of {k:Nat} (h1:1<=k) (h7:k<7):(k=1/\arn k=1)\/(k=2/\arn k=1)\/(k=6/\arn k=2)\/((k=3\/k=4\/k=5)/\arn k=2):=by
 have:k=1\/k=2\/k=3\/k=4\/k=5\/k=6:=by omega
 rcases this with rfl | rfl | rfl | rfl | rfl | rfl <;> simp [arn]
theorem ag_bd {t:ByteArray} {n} {i:Nat} (h:okn (ags t) n) (hi:i<n):0<=agn t i/\agn t i<=9999999999:=okd_bd (h i hi)
def gbd (g:Gt):Prop:=(1<=g.k/\g.k<=6)/\(0<=g.a/\g.a<=9999999999)/\(0<=g.b/\g.b<=9999999999)/\0<=g.n/\g.n<=9999999999
theorem gof_bd {k:Nat} {t:ByteArray} (h1:1<=k) (h7:k<7) (ho:okn (ags t) (arn k)):gbd (gof k t):=by
 rcases arn_of h1 h7 with ⟨rfl,e⟩ | ⟨rfl,e⟩ | ⟨rfl,e⟩ | ⟨h3,e⟩
 ·rw [e] at ho;have:=ag_bd ho (i:=0) (by omega);unfold gof gbd;simp;omega
 ·rw [e] at ho;have:=ag_bd ho (i:=0) (by omega);unfold gof gbd;simp;omega
 ·rw [e] at ho;have:=ag_bd ho (i:=0) (by omega);have:=ag_bd ho (i:=1) (by omega);unfold gof gbd;simp;omega
 ·rw [e] at ho;have:=ag_bd ho (i:=0) (by omega);have:=ag_bd ho (i:=1) (by omega);unfold gof gbd;rw [if_neg (by omega),if_neg (by omega),if_neg (by omega)];simp only;omega
theorem Rds.bd {l:List ByteArray}:∀{i:Nat} {G:List Gt} {O:List Int},Rds l i G O->(∀g ∈ G,gbd g)/\(∀x ∈ O,0<=x/\x<=9999999999)
 | 0,_,_,h=>by obtain ⟨rfl,rfl⟩:=h;exact ⟨λg hg=>by simp at hg,λx hx=>by simp at hx⟩
 | i+1,_,_,h=>by
  obtain ⟨G0,O0,h0,h1⟩:=h
  obtain ⟨b1,b2⟩:=h0.bd
  rcases h1 with ⟨g,⟨k,hk,_,_,ho,rfl⟩,_,rfl,rfl⟩ | ⟨x,⟨_,_,ho,rfl⟩,rfl,rfl⟩
  ·refine ⟨λy hy=>?_,λx hx=>by simp at hx⟩
   rcases List.mem_append.1 hy with hy | hy
   ·exact b1 y hy
   ·obtain rfl:=List.mem_singleton.1 hy
    exact gof_bd hk.1 hk.2 ho
  ·refine ⟨b1,λy hy=>?_⟩
   rcases List.mem_append.1 hy with hy | hy
   ·exact b2 y hy
   ·obtain rfl:=List.mem_singleton.1 hy
    exact ag_bd ho (by omega)
theorem Par.gbd {s G O a r} (h:Par s G O a r):(∀g ∈ G,gbd g)/\(∀x ∈ O,0<=x/\x<=9999999999):=by
 have nil:(∀g ∈ ([]:List Gt),Go.Proofs.YtljlioglpaogdacGreatDoor.gbd g)/\(∀x ∈ ([]:List Int),0<=x/\x<=9999999999):=⟨λg hg=>by simp at hg,λx hx=>by simp at hx⟩;rcases h with ⟨_,rfl,rfl,_,_⟩ | ⟨_,⟨_,_,_,_,_,_,rfl,rfl,_,_⟩ | ⟨G0,O0,h1,⟨_,rfl,rfl,_,_⟩ | ⟨_,_,_,⟨_,rfl,rfl⟩ | ⟨_,rfl,rfl⟩⟩⟩⟩
 ·exact nil
 ·exact nil
 ·exact nil
 ·exact nil
 ·exact h1.bd
theorem gt_mem {G:List Gt} {i:Nat} (h:i<G.length):gt G i ∈ G:=by
 unfold gt;rw [List.getD_eq_getElem?_getD,List.getElem?_eq_getElem h];exact List.getElem_mem _
theorem RdG.ownA {w:World} {base n c:Nat} {a:Option Addr} {E:TypeId} {G:List Gt} (h:w.ownsRow base E 4 (.slice a n c) n (gcs G)) (hl:G.length=n) (hb:∀g ∈ G,gbd g):RdG w a n c G:=by
 have aa:∀i,i<n->(-9223372036854775808<=(gt G i).k/\(gt G i).k<=9223372036854775807)/\(-9223372036854775808<=(gt G i).a/\(gt G i).a<=9223372036854775807)/\(-9223372036854775808<=(gt G i).b/\(gt G i).b<=9223372036854775807)/\0<=(gt G i).n/\(gt G i).n<=18446744073709551615:=λi hi=>by
  have:=hb _ (gt_mem (show i<G.length by omega));unfold gbd at this;omega
 rcases h.2 with ⟨e,rfl⟩ | ⟨g,ab,ad,e,_⟩
 ·simp only [Value.slice.injEq] at e;obtain ⟨rfl,_,rfl⟩:=e;exact ⟨hl,Nat.le_refl _,Nat.zero_le _,λ_=>rfl,aa,λx hx=>by simp at hx⟩
 ·simp only [Value.slice.injEq] at e;obtain ⟨rfl,_,rfl⟩:=e;exact RdG.own h hl aa
theorem RdI.ownA {w:World} {base n c:Nat} {a:Option Addr} {E:TypeId} {L:List Int} (h:w.ownsRow base E 1 (.slice a n c) n (zns L)) (hb:∀x ∈ L,0<=x/\x<=9999999999):RdI w a n c L:=by
 obtain ⟨a',c',e,hr⟩:=RdI.own h (λx hx=>by have:=hb x hx;omega);simp only [Value.slice.injEq] at e;obtain ⟨rfl,_,rfl⟩:=e;exact hr
def Prd (s:ByteArray) (w:World) (e:Ending) (w':World):Prop:=
 ∃(ag:Option Addr) (cg:Nat) (ao:Option Addr) (co at_:Nat) (r:Int) (G:List Gt) (O:List Int),e = .returned (.tuple #[.agg #[.slice ag G.length cg,.slice ao O.length co],.int .i64 (at_:Int),.int .i64 r])/\Par s G O at_ r/\
  w'.ownsRow w.heap.size 138 4 (.slice ag G.length cg) G.length (gcs G)/\w'.ownsRow w.heap.size 3 1 (.slice ao O.length co) O.length (zns O)/\Below w.heap.size w w'
theorem Prd.err {s} {w:World} {w'} {a:Int} {r n} (h:Par s [] [] n r) (ha:a=(n:Int)) (hb:Below w.heap.size w w'):Prd s w (.returned (.tuple #[.agg #[.slice none 0 0,.slice none 0 0],.int .i64 a,.int .i64 r])) w':=by
 subst ha;exact ⟨none,0,none,0,n,r,[],[],rfl,h,World.ownsRow_nil _ _ _ _,World.ownsRow_nil _ _ _ _,hb⟩
theorem two_put {w:World} {g:Nat} {u v x y:Value} (h0:w.cell? ⟨g,0,none⟩=some u) (h1:w.cell? ⟨g,1,none⟩=some v):
  ((w.setCell ⟨g,0,none⟩ x).setCell ⟨g,1,none⟩ y).cell? ⟨g,0,none⟩=some x/\((w.setCell ⟨g,0,none⟩ x).setCell ⟨g,1,none⟩ y).cell? ⟨g,1,none⟩=some y:=by
 refine ⟨?_,?_⟩
 ·rw [World.cell?_setCell_other _ _ _ _ (by simp)];exact World.cell?_setCell_same w _ x h0
 ·exact World.cell?_setCell_same _ _ y (show (w.setCell ⟨g,0,none⟩ x).cell? ⟨g,1,none⟩=some v by rw [World.cell?_setCell_other _ _ _ _ (by simp)];exact h1)
theorem ixt_some (x:ByteArray):∃r,Ixt vbs 7 x r:=by
 by_cases h:∃k,k<7/\tx vbs k=x
 ·obtain ⟨k,h1,h2⟩:=h;exact ⟨k,.inl ⟨k,h1,h2,rfl⟩⟩
 ·exact ⟨-1,.inr ⟨λj hj e=>h ⟨j,hj,e⟩,rfl⟩⟩
theorem ixt_one {x r q} (h:Ixt vbs 7 x r) (k:Ixt vbs 7 x q):r=q:=by
 rcases h with ⟨i,hi,e1,rfl⟩ | ⟨h1,rfl⟩ <;> rcases k with ⟨j,hj,e2,rfl⟩ | ⟨k1,rfl⟩
 ·rw [vb_inj i hi j hj (e1.trans e2.symm)]
 ·exact absurd e1 (k1 i hi)
 ·exact absurd e2 (h1 j hj)
 ·rfl
theorem sIndexV (x r w) (h:Ixt vbs 7 x r) (hV:Vb w):Calls Tryz.prog 28 #[.slice (some ⟨1,0,none⟩) 7 7,.string x] w λe w'=>e = .returned (.int .i64 r)/\w'=w:=by
 refine (sIndexT _ _ _ _ x w hV.rd).mono ?_;rintro e w' ⟨q,rfl,hq,rfl⟩;rw [ixt_one h hq];exact ⟨rfl,rfl⟩
theorem Vb.drewN {w} (h:Vb w) (q:Nat):Vb (w.drewN q):=h
theorem nok_num {t:ByteArray} {O:List Int} {k:Nat} (hl:(ags t).length=k) (h:¬ okn (ags t) k):Nok t O:=by
 rintro (⟨g,⟨j,_,_,e,ho,_⟩,_⟩ | ⟨x,_,e,ho,_⟩)
 ·rw [<- hl,e] at h;exact h ho
 ·rw [<- hl,e] at h;exact h ho
theorem nok_out {t:ByteArray} {O:List Int} (ho:tx (wds t) 0=outB) (hl:(ags t).length≠1):Nok t O:=by
 rintro (⟨g,⟨j,hj,e,_⟩,_⟩ | ⟨x,_,e,_⟩)
 ·exact vb_out j hj.2 (e.symm.trans ho)
 ·exact hl e
theorem nok_kind {t:ByteArray} {O:List Int} {r} (ho:tx (wds t) 0≠outB) (h:Ixt vbs 7 (tx (wds t) 0) r) (hr:r<1):Nok t O:=by
 rintro (⟨g,⟨j,hj,e,_⟩,_⟩ | ⟨x,e,_⟩)
 ·rcases h with ⟨i,hi,e1,rfl⟩ | ⟨h1,_⟩
  ·have:=vb_inj i hi j hj.2 (e1.trans e);omega
  ·exact h1 j hj.2 e.symm
 ·exact ho e
theorem nok_outs {t:ByteArray} {O:List Int} (ho:tx (wds t) 0≠outB) (h:O≠[]):Nok t O:=by
 rintro (⟨g,_,e⟩ | ⟨x,e,_⟩)
 ·exact h e
 ·exact ho e
theorem nok_many {t:ByteArray} {O:List Int} {k:Nat} (ho:tx (wds t) 0≠outB) (hk:k<7) (h:tx (wds t) 0=vb k) (hl:(ags t).length≠arn k):Nok t O:=by
 rintro (⟨g,⟨j,hj,e,e2,_⟩,_⟩ | ⟨x,e,_⟩)
 ·obtain rfl:=vb_inj k hk j hj.2 (h.symm.trans e);exact hl e2
 ·exact ho e
theorem rText (ag n cg G ao m co O w) (h:RdG w ag n cg G) (g:RdI w ao m co O) (hn:n<=30) (hm:m<=30) (hG:okG G n) (hO:okO O n m) (hT:Tabs w) (hV:Vb w):
  Calls Tryz.prog 78 #[.agg #[.slice ag n cg,.slice ao m co]] w λe w'=>e = .returned (.string (otx (gtx G n) O m))/\Below w.heap.size w w':=by
 have HG:=hid hG;have HO:=hid hO;have aS:=h.cap;have aA:=CBox.new w ag n cg ao m co;have aB:Below w.heap.size w (w.alloc (.cells #[.slice ag n cg,.slice ao m co] 89)):=bal _ _;clear hG hO;go_enter Tryz.func78,Tryz.ntmps78;go_upto_region 1 with fail;generalize w.alloc (.cells #[.slice ag n cg,.slice ao m co] 89)=w0 at *;have aH:=aA.lt;go_wp2;go_loopw [4,5] (λv q wr=>∃i:Nat,i<=n/\q = .int .i64 i/\v = .string (gtx G i)/\Below w0.heap.size w0 wr) (λ_ q _=>n-(intOf q).toNat)
 case atStart=>exact ⟨0,Nat.zero_le _,rfl,rfl,Below.refl _ _⟩
 case round=>
  obtain ⟨i,aI,rfl,rfl,aw⟩:=hrel;have hC:=aA.below aw aH;obtain ⟨d0,d1⟩:=hC.cells;have aJ:=hC.lt;have aK:=aw.size;have aj:=btr aB aw;have aL:=gtx_size HG.out hn i aI;obtain ⟨T,HT⟩:=nmd (gtx G i);rw [HT.out] at aL ⊢;by_cases hlt:i<n
  ·obtain ⟨b,o,k,x,y,z,rfl,aM,ar,hk,hx,hy,hz,c1,c2,c3,c4⟩:=(h.below aj).one hlt;have aC:=HG.out i hlt;rw [ar.out] at aC;have ap:Below wr.heap.size wr (wr.alloc (.cells #[.int .i64 k,.int .i64 x,.int .i64 y,.int .u64 z] 138)):=bal _ _;have ak:=(hV.below aj).below ap;have al:=(hT.below aj).below ap;have ah:=aw.trans (ap.mono aK);have aT:0<wr.heap.size:=by omega
   rcases aC with ⟨q1,q2,q3,q4⟩ | ⟨q1,q2,q3⟩ | ⟨q1,q2,q3⟩ | ⟨q1,q2,q3,q4⟩
   ·simp only at q1 q2 q3 q4;subst q1 q3 q4;have hv:=ak 1 (by omega);have ad:=(hV.below aj) 1 (by omega);have am:=vb_size 1 (by omega);have HA:Hid (gtx G (i+1)=T++vb 1++(⟨#[32]⟩++itb x)++⟨#[10]⟩):=by unfold Hid;rw [gtx,HT.out,gln,ar.out];rfl
    obtain ⟨v,HV⟩:=nmd (vb 1);rw [HV.out] at hv ad am HA;have a1:=add_run (P:=Tryz.prog) T v (by omega);have hu:=itb_size x (by omega) (by omega);obtain ⟨u,HU⟩:=nmd (itb x);rw [HU.out] at hu HA;have a2:=add_run (P:=Tryz.prog) ⟨#[32]⟩ u (by (repeat rw [ByteArray.size_append]);have:=sp_size;have:=nl_size;omega);have a3:=add_run (P:=Tryz.prog) (T++v) (⟨#[32]⟩++u) (by (repeat rw [ByteArray.size_append]);have:=sp_size;have:=nl_size;omega);have a4:=add_run (P:=Tryz.prog) (T++v++(⟨#[32]⟩++u)) ⟨#[10]⟩ (by (repeat rw [ByteArray.size_append]);have:=sp_size;have:=nl_size;omega);go_wp2_with fail;refine (sItoa x _ (by omega) (by omega) al).mono ?_;rintro e w5 ⟨rfl,aq⟩;rw [HU.out];have ai:=btr ah aq;clear aq ak al ap ah hv ad;go_wp2;go_roundw
    case rel=>exact ⟨i+1,by omega,by go_num,by rw [HA.out],ai⟩
    case measure=>simp [intOf];omega
   ·simp only at q1 q2 q3;subst q1 q2 q3;have hv:=ak 2 (by omega);have ad:=(hV.below aj) 2 (by omega);have am:=vb_size 2 (by omega);have HA:Hid (gtx G (i+1)=T++vb 2++(⟨#[32]⟩++itb (nm z))++⟨#[10]⟩):=by unfold Hid;rw [gtx,HT.out,gln,ar.out];rfl
    obtain ⟨v,HV⟩:=nmd (vb 2);rw [HV.out] at hv ad am HA;have a1:=add_run (P:=Tryz.prog) T v (by omega);have ax:=nm_bd z;have hu:=itb_size (nm z) (by omega) (by omega);obtain ⟨N,HN⟩:=nmd (nm z);rw [HN.out] at hu HA ax;obtain ⟨u,HU⟩:=nmd (itb N);rw [HU.out] at hu HA;have aN:IntKind.i64.wrap N=N:=by rw [IntKind.wrap_i64];omega
    have a2:=add_run (P:=Tryz.prog) ⟨#[32]⟩ u (by (repeat rw [ByteArray.size_append]);have:=sp_size;have:=nl_size;omega);have a3:=add_run (P:=Tryz.prog) (T++v) (⟨#[32]⟩++u) (by (repeat rw [ByteArray.size_append]);have:=sp_size;have:=nl_size;omega);have a4:=add_run (P:=Tryz.prog) (T++v++(⟨#[32]⟩++u)) ⟨#[10]⟩ (by (repeat rw [ByteArray.size_append]);have:=sp_size;have:=nl_size;omega);go_wp2_with fail;refine (rNorm z _ hz.1 hz.2).mono ?_;rintro e w4 ⟨rfl,ay⟩;have ay:=ay.symm;subst ay;rw [HN.out];go_wp2_with fail;refine (sItoa N _ (by omega) (by omega) al).mono ?_;rintro e w5 ⟨rfl,aq⟩;rw [HU.out];have ai:=btr ah aq;clear aq ak al ap ah hv ad;go_wp2;go_roundw
    case rel=>exact ⟨i+1,by omega,by go_num,by rw [HA.out],ai⟩
    case measure=>simp [intOf];omega
   ·simp only at q1 q2 q3;subst q1 q3;have hv:=ak 6 (by omega);have ad:=(hV.below aj) 6 (by omega);have am:=vb_size 6 (by omega);have HA:Hid (gtx G (i+1)=T++vb 6++(⟨#[32]⟩++itb x++⟨#[32]⟩++itb (nm z))++⟨#[10]⟩):=by unfold Hid;rw [gtx,HT.out,gln,ar.out];rfl
    obtain ⟨v,HV⟩:=nmd (vb 6);rw [HV.out] at hv ad am HA;have a1:=add_run (P:=Tryz.prog) T v (by omega);have ax:=nm_bd z;obtain ⟨N,HN⟩:=nmd (nm z);rw [HN.out] at HA ax;have aN:IntKind.i64.wrap N=N:=by rw [IntKind.wrap_i64];omega
    have hu:=itb_size x (by omega) (by omega);have au:=itb_size N (by omega) (by omega);obtain ⟨u,HU⟩:=nmd (itb x);obtain ⟨u2,ae⟩:=nmd (itb N);rw [HU.out] at hu;rw [ae.out] at au;rw [HU.out,ae.out] at HA;have a2:=add_run (P:=Tryz.prog) ⟨#[32]⟩ u (by (repeat rw [ByteArray.size_append]);have:=sp_size;have:=nl_size;omega);have a3:=add_run (P:=Tryz.prog) (⟨#[32]⟩++u) ⟨#[32]⟩ (by (repeat rw [ByteArray.size_append]);have:=sp_size;have:=nl_size;omega);have a4:=add_run (P:=Tryz.prog) (⟨#[32]⟩++u++⟨#[32]⟩) u2 (by (repeat rw [ByteArray.size_append]);have:=sp_size;have:=nl_size;omega);have a5:=add_run (P:=Tryz.prog) (T++v) (⟨#[32]⟩++u++⟨#[32]⟩++u2) (by (repeat rw [ByteArray.size_append]);have:=sp_size;have:=nl_size;omega);have a6:=add_run (P:=Tryz.prog) (T++v++(⟨#[32]⟩++u++⟨#[32]⟩++u2)) ⟨#[10]⟩ (by (repeat rw [ByteArray.size_append]);have:=sp_size;have:=nl_size;omega);have hQ:=gate_box wr 6 x 0 z 138;have ab:wr.heap.size<(wr.alloc (.cells #[.int .i64 6,.int .i64 x,.int .i64 0,.int .u64 z] 138)).heap.size:=by simp
    go_wp2_with fail;generalize wr.alloc (.cells #[.int .i64 6,.int .i64 x,.int .i64 0,.int .u64 z] 138)=W at *;obtain ⟨_,g1,g2,g3⟩:=hQ;have af:Hid (∀w',Below W.heap.size W w'->w'.cell? ⟨wr.heap.size,1,none⟩=some (.int .i64 x)/\w'.cell? ⟨wr.heap.size,3,none⟩=some (.int .u64 z)/\wr.heap.size<w'.heap.size):=λw' hb=>⟨by rw [hb.cell (p:=⟨wr.heap.size,1,none⟩) ab];exact g1,by rw [hb.cell (p:=⟨wr.heap.size,3,none⟩) ab];exact g3,Nat.lt_of_lt_of_le ab hb.size⟩;have an:Hid (∀w',Below W.heap.size W w'->Tabs w'):=λw' hb=>al.below hb;have aa:Below W.heap.size W W.drew:=(Below.refl _ _).drew;clear ak al ap hv ad c1 c2 c3 c4;go_region_held3 (λw'=>w'.cell? ⟨wr.heap.size,1,none⟩=some (.int .i64 x)/\w'.cell? ⟨wr.heap.size,3,none⟩=some (.int .u64 z)) (go_keep) (first | (go_at_call_of 16 (Value.int .i64 x);refine (sItoa x _ (by omega) (by omega) (an.out _ aa)).mono ?_;rintro en w1 ⟨rfl,hb⟩;rw [HU.out];have aa:=btr aa hb;obtain ⟨e1,e2,e3⟩:=af.out _ aa;clear hb) | (go_at_call_of 16 (Value.int .i64 N);refine (sItoa N _ (by omega) (by omega) (an.out _ aa)).mono ?_;rintro en w2 ⟨rfl,hb⟩;rw [ae.out];have aa:=btr aa hb;obtain ⟨f1,f2,f3⟩:=af.out _ aa;clear hb) | (go_at_call 76;refine (rNorm z _ hz.1 hz.2).mono ?_;rintro en w3 ⟨rfl,hw⟩;have hw:=hw.symm;subst hw;rw [HN.out]))
    all_goals
     have ai:=btr ah aa;go_wp2;go_roundw
     case rel=>exact ⟨i+1,by omega,by go_num,by rw [HA.out],ai⟩
     case measure=>simp [intOf];omega
   ·simp only at q1 q2 q3 q4;rcases q1 with q1 | q1 | q1
    ·subst q1 q4;have hv:=ak 3 (by omega);have ad:=(hV.below aj) 3 (by omega);have am:=vb_size 3 (by omega);have HA:Hid (gtx G (i+1)=T++vb 3++(⟨#[32]⟩++itb x++⟨#[32]⟩++itb (y))++⟨#[10]⟩):=by unfold Hid;rw [gtx,HT.out,gln,ar.out];rfl
     obtain ⟨v,HV⟩:=nmd (vb 3);rw [HV.out] at hv ad am HA;have a1:=add_run (P:=Tryz.prog) T v (by omega);have hu:=itb_size x (by omega) (by omega);have au:=itb_size y (by omega) (by omega);obtain ⟨u,HU⟩:=nmd (itb x);obtain ⟨u2,ae⟩:=nmd (itb y);rw [HU.out] at hu;rw [ae.out] at au;rw [HU.out,ae.out] at HA;have a2:=add_run (P:=Tryz.prog) ⟨#[32]⟩ u (by (repeat rw [ByteArray.size_append]);have:=sp_size;have:=nl_size;omega);have a3:=add_run (P:=Tryz.prog) (⟨#[32]⟩++u) ⟨#[32]⟩ (by (repeat rw [ByteArray.size_append]);have:=sp_size;have:=nl_size;omega);have a4:=add_run (P:=Tryz.prog) (⟨#[32]⟩++u++⟨#[32]⟩) u2 (by (repeat rw [ByteArray.size_append]);have:=sp_size;have:=nl_size;omega);have a5:=add_run (P:=Tryz.prog) (T++v) (⟨#[32]⟩++u++⟨#[32]⟩++u2) (by (repeat rw [ByteArray.size_append]);have:=sp_size;have:=nl_size;omega);have a6:=add_run (P:=Tryz.prog) (T++v++(⟨#[32]⟩++u++⟨#[32]⟩++u2)) ⟨#[10]⟩ (by (repeat rw [ByteArray.size_append]);have:=sp_size;have:=nl_size;omega);have hQ:=gate_box wr 3 x y 0 138;have ab:wr.heap.size<(wr.alloc (.cells #[.int .i64 3,.int .i64 x,.int .i64 y,.int .u64 0] 138)).heap.size:=by simp
     go_wp2_with fail;generalize wr.alloc (.cells #[.int .i64 3,.int .i64 x,.int .i64 y,.int .u64 0] 138)=W at *;obtain ⟨_,g1,g2,g3⟩:=hQ;have af:Hid (∀w',Below W.heap.size W w'->w'.cell? ⟨wr.heap.size,1,none⟩=some (.int .i64 x)/\w'.cell? ⟨wr.heap.size,2,none⟩=some (.int .i64 y)/\wr.heap.size<w'.heap.size):=λw' hb=>⟨by rw [hb.cell (p:=⟨wr.heap.size,1,none⟩) ab];exact g1,by rw [hb.cell (p:=⟨wr.heap.size,2,none⟩) ab];exact g2,Nat.lt_of_lt_of_le ab hb.size⟩;have an:Hid (∀w',Below W.heap.size W w'->Tabs w'):=λw' hb=>al.below hb;have aa:Below W.heap.size W W.drew:=(Below.refl _ _).drew;clear ak al ap hv ad c1 c2 c3 c4;go_region_held3 (λw'=>w'.cell? ⟨wr.heap.size,1,none⟩=some (.int .i64 x)/\w'.cell? ⟨wr.heap.size,2,none⟩=some (.int .i64 y)) (go_keep) (first | (go_at_call_of 16 (Value.int .i64 x);refine (sItoa x _ (by omega) (by omega) (an.out _ aa)).mono ?_;rintro en w1 ⟨rfl,hb⟩;rw [HU.out];have aa:=btr aa hb;obtain ⟨e1,e2,e3⟩:=af.out _ aa;clear hb) | (go_at_call_of 16 (Value.int .i64 y);refine (sItoa y _ (by omega) (by omega) (an.out _ aa)).mono ?_;rintro en w2 ⟨rfl,hb⟩;rw [ae.out];have aa:=btr aa hb;obtain ⟨f1,f2,f3⟩:=af.out _ aa;clear hb))
     all_goals
      have ai:=btr ah aa;go_wp2;go_roundw
      case rel=>exact ⟨i+1,by omega,by go_num,by rw [HA.out],ai⟩
      case measure=>simp [intOf];omega
    ·subst q1 q4;have hv:=ak 4 (by omega);have ad:=(hV.below aj) 4 (by omega);have am:=vb_size 4 (by omega);have HA:Hid (gtx G (i+1)=T++vb 4++(⟨#[32]⟩++itb x++⟨#[32]⟩++itb (y))++⟨#[10]⟩):=by unfold Hid;rw [gtx,HT.out,gln,ar.out];rfl
     obtain ⟨v,HV⟩:=nmd (vb 4);rw [HV.out] at hv ad am HA;have a1:=add_run (P:=Tryz.prog) T v (by omega);have hu:=itb_size x (by omega) (by omega);have au:=itb_size y (by omega) (by omega);obtain ⟨u,HU⟩:=nmd (itb x);obtain ⟨u2,ae⟩:=nmd (itb y);rw [HU.out] at hu;rw [ae.out] at au;rw [HU.out,ae.out] at HA;have a2:=add_run (P:=Tryz.prog) ⟨#[32]⟩ u (by (repeat rw [ByteArray.size_append]);have:=sp_size;have:=nl_size;omega);have a3:=add_run (P:=Tryz.prog) (⟨#[32]⟩++u) ⟨#[32]⟩ (by (repeat rw [ByteArray.size_append]);have:=sp_size;have:=nl_size;omega);have a4:=add_run (P:=Tryz.prog) (⟨#[32]⟩++u++⟨#[32]⟩) u2 (by (repeat rw [ByteArray.size_append]);have:=sp_size;have:=nl_size;omega);have a5:=add_run (P:=Tryz.prog) (T++v) (⟨#[32]⟩++u++⟨#[32]⟩++u2) (by (repeat rw [ByteArray.size_append]);have:=sp_size;have:=nl_size;omega);have a6:=add_run (P:=Tryz.prog) (T++v++(⟨#[32]⟩++u++⟨#[32]⟩++u2)) ⟨#[10]⟩ (by (repeat rw [ByteArray.size_append]);have:=sp_size;have:=nl_size;omega);have hQ:=gate_box wr 4 x y 0 138;have ab:wr.heap.size<(wr.alloc (.cells #[.int .i64 4,.int .i64 x,.int .i64 y,.int .u64 0] 138)).heap.size:=by simp
     go_wp2_with fail;generalize wr.alloc (.cells #[.int .i64 4,.int .i64 x,.int .i64 y,.int .u64 0] 138)=W at *;obtain ⟨_,g1,g2,g3⟩:=hQ;have af:Hid (∀w',Below W.heap.size W w'->w'.cell? ⟨wr.heap.size,1,none⟩=some (.int .i64 x)/\w'.cell? ⟨wr.heap.size,2,none⟩=some (.int .i64 y)/\wr.heap.size<w'.heap.size):=λw' hb=>⟨by rw [hb.cell (p:=⟨wr.heap.size,1,none⟩) ab];exact g1,by rw [hb.cell (p:=⟨wr.heap.size,2,none⟩) ab];exact g2,Nat.lt_of_lt_of_le ab hb.size⟩;have an:Hid (∀w',Below W.heap.size W w'->Tabs w'):=λw' hb=>al.below hb;have aa:Below W.heap.size W W.drew:=(Below.refl _ _).drew;clear ak al ap hv ad c1 c2 c3 c4;go_region_held3 (λw'=>w'.cell? ⟨wr.heap.size,1,none⟩=some (.int .i64 x)/\w'.cell? ⟨wr.heap.size,2,none⟩=some (.int .i64 y)) (go_keep) (first | (go_at_call_of 16 (Value.int .i64 x);refine (sItoa x _ (by omega) (by omega) (an.out _ aa)).mono ?_;rintro en w1 ⟨rfl,hb⟩;rw [HU.out];have aa:=btr aa hb;obtain ⟨e1,e2,e3⟩:=af.out _ aa;clear hb) | (go_at_call_of 16 (Value.int .i64 y);refine (sItoa y _ (by omega) (by omega) (an.out _ aa)).mono ?_;rintro en w2 ⟨rfl,hb⟩;rw [ae.out];have aa:=btr aa hb;obtain ⟨f1,f2,f3⟩:=af.out _ aa;clear hb))
     all_goals
      have ai:=btr ah aa;go_wp2;go_roundw
      case rel=>exact ⟨i+1,by omega,by go_num,by rw [HA.out],ai⟩
      case measure=>simp [intOf];omega
    ·subst q1 q4;have hv:=ak 5 (by omega);have ad:=(hV.below aj) 5 (by omega);have am:=vb_size 5 (by omega);have HA:Hid (gtx G (i+1)=T++vb 5++(⟨#[32]⟩++itb x++⟨#[32]⟩++itb (y))++⟨#[10]⟩):=by unfold Hid;rw [gtx,HT.out,gln,ar.out];rfl
     obtain ⟨v,HV⟩:=nmd (vb 5);rw [HV.out] at hv ad am HA;have a1:=add_run (P:=Tryz.prog) T v (by omega);have hu:=itb_size x (by omega) (by omega);have au:=itb_size y (by omega) (by omega);obtain ⟨u,HU⟩:=nmd (itb x);obtain ⟨u2,ae⟩:=nmd (itb y);rw [HU.out] at hu;rw [ae.out] at au;rw [HU.out,ae.out] at HA;have a2:=add_run (P:=Tryz.prog) ⟨#[32]⟩ u (by (repeat rw [ByteArray.size_append]);have:=sp_size;have:=nl_size;omega);have a3:=add_run (P:=Tryz.prog) (⟨#[32]⟩++u) ⟨#[32]⟩ (by (repeat rw [ByteArray.size_append]);have:=sp_size;have:=nl_size;omega);have a4:=add_run (P:=Tryz.prog) (⟨#[32]⟩++u++⟨#[32]⟩) u2 (by (repeat rw [ByteArray.size_append]);have:=sp_size;have:=nl_size;omega);have a5:=add_run (P:=Tryz.prog) (T++v) (⟨#[32]⟩++u++⟨#[32]⟩++u2) (by (repeat rw [ByteArray.size_append]);have:=sp_size;have:=nl_size;omega);have a6:=add_run (P:=Tryz.prog) (T++v++(⟨#[32]⟩++u++⟨#[32]⟩++u2)) ⟨#[10]⟩ (by (repeat rw [ByteArray.size_append]);have:=sp_size;have:=nl_size;omega);have hQ:=gate_box wr 5 x y 0 138;have ab:wr.heap.size<(wr.alloc (.cells #[.int .i64 5,.int .i64 x,.int .i64 y,.int .u64 0] 138)).heap.size:=by simp
     go_wp2_with fail;generalize wr.alloc (.cells #[.int .i64 5,.int .i64 x,.int .i64 y,.int .u64 0] 138)=W at *;obtain ⟨_,g1,g2,g3⟩:=hQ;have af:Hid (∀w',Below W.heap.size W w'->w'.cell? ⟨wr.heap.size,1,none⟩=some (.int .i64 x)/\w'.cell? ⟨wr.heap.size,2,none⟩=some (.int .i64 y)/\wr.heap.size<w'.heap.size):=λw' hb=>⟨by rw [hb.cell (p:=⟨wr.heap.size,1,none⟩) ab];exact g1,by rw [hb.cell (p:=⟨wr.heap.size,2,none⟩) ab];exact g2,Nat.lt_of_lt_of_le ab hb.size⟩;have an:Hid (∀w',Below W.heap.size W w'->Tabs w'):=λw' hb=>al.below hb;have aa:Below W.heap.size W W.drew:=(Below.refl _ _).drew;clear ak al ap hv ad c1 c2 c3 c4;go_region_held3 (λw'=>w'.cell? ⟨wr.heap.size,1,none⟩=some (.int .i64 x)/\w'.cell? ⟨wr.heap.size,2,none⟩=some (.int .i64 y)) (go_keep) (first | (go_at_call_of 16 (Value.int .i64 x);refine (sItoa x _ (by omega) (by omega) (an.out _ aa)).mono ?_;rintro en w1 ⟨rfl,hb⟩;rw [HU.out];have aa:=btr aa hb;obtain ⟨e1,e2,e3⟩:=af.out _ aa;clear hb) | (go_at_call_of 16 (Value.int .i64 y);refine (sItoa y _ (by omega) (by omega) (an.out _ aa)).mono ?_;rintro en w2 ⟨rfl,hb⟩;rw [ae.out];have aa:=btr aa hb;obtain ⟨f1,f2,f3⟩:=af.out _ aa;clear hb))
     all_goals
      have ai:=btr ah aa;go_wp2;go_roundw
      case rel=>exact ⟨i+1,by omega,by go_num,by rw [HA.out],ai⟩
      case measure=>simp [intOf];omega
  ·have aG:i=n:=by omega
   subst aG;have aO:=hT.below aj;obtain ⟨wo,aP⟩:∃wo,wo=wr:=⟨_,rfl⟩;subst aP;go_wp2;go_loopw [4,7] (λv q wr=>∃j:Nat,j<=m/\q = .int .i64 j/\v = .string (otx T O j)/\Below wo.heap.size wo wr) (λ_ q _=>m-(intOf q).toNat)
   case atStart=>exact ⟨0,Nat.zero_le _,rfl,rfl,Below.refl _ _⟩
   case round=>
    obtain ⟨j,aQ,rfl,rfl,av⟩:=hrel;have aD:=hC.below av aJ;obtain ⟨f0,f1⟩:=aD.cells;have aU:=aD.lt;have az:=btr aj av;by_cases hlt2:j<m
    ·obtain ⟨b,o,x,rfl,aM,HX,aE,aF,c1⟩:=(g.below az).one hlt2;have aR:=otx_size (t:=T) HO.out hn j aQ;have hu:=itb_size x aE aF;have HA:Hid (otx T O (j+1)=otx T O j++(⟨#[111,117,116,32]⟩++itb x++⟨#[10]⟩)):=by unfold Hid;rw [otx,HX.out]
     obtain ⟨u,HU⟩:=nmd (itb x);obtain ⟨Y,HY⟩:=nmd (otx T O j);rw [HU.out] at hu HA;rw [HY.out] at aR HA ⊢;have a1:=add_run (P:=Tryz.prog) ⟨#[111,117,116,32]⟩ u (by rw [out_size];omega);have a2:=add_run (P:=Tryz.prog) (⟨#[111,117,116,32]⟩++u) ⟨#[10]⟩ (by simp only [ByteArray.size_append,out_size,nl_size];omega);have a3:=add_run (P:=Tryz.prog) Y (⟨#[111,117,116,32]⟩++u++⟨#[10]⟩) (by simp only [ByteArray.size_append,out_size,nl_size];omega);go_wp2_with fail;refine (sItoa x _ aE aF (aO.below av)).mono ?_;rintro e w5 ⟨rfl,aq⟩;rw [HU.out];have ai:=btr av aq;clear aq av;go_wp2;go_roundw
     case rel=>exact ⟨j+1,by omega,by go_num,by rw [HA.out],ai⟩
     case measure=>simp [intOf];omega
    ·obtain rfl:m=j:=by omega
     go_wp2;go_ret;rw [HT.out];exact ⟨rfl,az⟩
def Knd (x:ByteArray) (k:Nat):Prop:=(1<=k/\k<7/\shw k=x)\/(k=0/\∀j,1<=j->j<7->shw j≠x)
def bn (b:Bool):Int:=if b then 1 else 0
theorem cKind (x w) (hS:Shp w):
  Calls Tryz.prog 202 #[.string x] w λe w'=>∃k:Nat,e = .returned (.int .i64 k)/\Knd x k/\w'=w:=by
 have slt:=hS.lt;go_enter Tryz.func202,Tryz.ntmps202;go_wp2;go_loopw [3] (λv wr=>∃k:Nat,(1<=k/\k<=7)/\v = .int .i64 k/\Hid (∀j,1<=j->j<k->shw j≠x)/\wr=w) (λv _=>7-(intOf v).toNat)
 case atStart=>exact ⟨1,⟨by omega,by omega⟩,rfl,λj h1 h2=>by omega,rfl⟩
 case round=>
  obtain ⟨k,hk,rfl,HK,rfl⟩:=hrel;have aa:k=1\/k=2\/k=3\/k=4\/k=5\/k=6\/k=7:=by omega
  rcases aa with rfl | rfl | rfl | rfl | rfl | rfl | rfl
  ·have s0:wr.cell? ⟨4,4,none⟩=some (.string (shw 1)):=hS.at1.1;obtain ⟨v,HV⟩:=nmd (shw 1);rw [HV.out] at s0;by_cases he:v=x
   ·have HN:Hid (Knd x 1):=.inl ⟨by omega,by omega,by rw [HV.out];exact he⟩;have hy:=tl_yes he;clear he;go_wp2;go_ret;exact ⟨1,rfl,HN.out,rfl⟩
   ·have HN:Hid (∀j,1<=j->j<2->shw j≠x):=λj h1 h2=>by
     by_cases e:j=1
     ·rw [e,HV.out];exact he
     ·exact HK.out j h1 (by omega)
    have hy:=tl_no he;clear he;go_wp2;go_roundw
    case rel=>exact ⟨2,⟨by omega,by omega⟩,by go_num,HN,by trivial⟩
    case measure=>simp [intOf]
  ·have s0:wr.cell? ⟨4,8,none⟩=some (.string (shw 2)):=hS.at2.1;obtain ⟨v,HV⟩:=nmd (shw 2);rw [HV.out] at s0;by_cases he:v=x
   ·have HN:Hid (Knd x 2):=.inl ⟨by omega,by omega,by rw [HV.out];exact he⟩;have hy:=tl_yes he;clear he;go_wp2;go_ret;exact ⟨2,rfl,HN.out,rfl⟩
   ·have HN:Hid (∀j,1<=j->j<3->shw j≠x):=λj h1 h2=>by
     by_cases e:j=2
     ·rw [e,HV.out];exact he
     ·exact HK.out j h1 (by omega)
    have hy:=tl_no he;clear he;go_wp2;go_roundw
    case rel=>exact ⟨3,⟨by omega,by omega⟩,by go_num,HN,by trivial⟩
    case measure=>simp [intOf]
  ·have s0:wr.cell? ⟨4,12,none⟩=some (.string (shw 3)):=hS.at3.1;obtain ⟨v,HV⟩:=nmd (shw 3);rw [HV.out] at s0;by_cases he:v=x
   ·have HN:Hid (Knd x 3):=.inl ⟨by omega,by omega,by rw [HV.out];exact he⟩;have hy:=tl_yes he;clear he;go_wp2;go_ret;exact ⟨3,rfl,HN.out,rfl⟩
   ·have HN:Hid (∀j,1<=j->j<4->shw j≠x):=λj h1 h2=>by
     by_cases e:j=3
     ·rw [e,HV.out];exact he
     ·exact HK.out j h1 (by omega)
    have hy:=tl_no he;clear he;go_wp2;go_roundw
    case rel=>exact ⟨4,⟨by omega,by omega⟩,by go_num,HN,by trivial⟩
    case measure=>simp [intOf]
  ·have s0:wr.cell? ⟨4,16,none⟩=some (.string (shw 4)):=hS.at4.1;obtain ⟨v,HV⟩:=nmd (shw 4);rw [HV.out] at s0;by_cases he:v=x
   ·have HN:Hid (Knd x 4):=.inl ⟨by omega,by omega,by rw [HV.out];exact he⟩;have hy:=tl_yes he;clear he;go_wp2;go_ret;exact ⟨4,rfl,HN.out,rfl⟩
   ·have HN:Hid (∀j,1<=j->j<5->shw j≠x):=λj h1 h2=>by
     by_cases e:j=4
     ·rw [e,HV.out];exact he
     ·exact HK.out j h1 (by omega)
    have hy:=tl_no he;clear he;go_wp2;go_roundw
    case rel=>exact ⟨5,⟨by omega,by omega⟩,by go_num,HN,by trivial⟩
    case measure=>simp [intOf]
  ·have s0:wr.cell? ⟨4,20,none⟩=some (.string (shw 5)):=hS.at5.1;obtain ⟨v,HV⟩:=nmd (shw 5);rw [HV.out] at s0;by_cases he:v=x
   ·have HN:Hid (Knd x 5):=.inl ⟨by omega,by omega,by rw [HV.out];exact he⟩;have hy:=tl_yes he;clear he;go_wp2;go_ret;exact ⟨5,rfl,HN.out,rfl⟩
   ·have HN:Hid (∀j,1<=j->j<6->shw j≠x):=λj h1 h2=>by
     by_cases e:j=5
     ·rw [e,HV.out];exact he
     ·exact HK.out j h1 (by omega)
    have hy:=tl_no he;clear he;go_wp2;go_roundw
    case rel=>exact ⟨6,⟨by omega,by omega⟩,by go_num,HN,by trivial⟩
    case measure=>simp [intOf]
  ·have s0:wr.cell? ⟨4,24,none⟩=some (.string (shw 6)):=hS.at6.1;obtain ⟨v,HV⟩:=nmd (shw 6);rw [HV.out] at s0;by_cases he:v=x
   ·have HN:Hid (Knd x 6):=.inl ⟨by omega,by omega,by rw [HV.out];exact he⟩;have hy:=tl_yes he;clear he;go_wp2;go_ret;exact ⟨6,rfl,HN.out,rfl⟩
   ·have HN:Hid (∀j,1<=j->j<7->shw j≠x):=λj h1 h2=>by
     by_cases e:j=6
     ·rw [e,HV.out];exact he
     ·exact HK.out j h1 (by omega)
    have hy:=tl_no he;clear he;go_wp2;go_roundw
    case rel=>exact ⟨7,⟨by omega,by omega⟩,by go_num,HN,by trivial⟩
    case measure=>simp [intOf]
  ·have HN:Hid (Knd x 0):=.inr ⟨rfl,HK.out⟩;go_wp2;go_ret;exact ⟨0,rfl,HN.out,rfl⟩
theorem cCount (g:Nat) (a b c:Bool) (w:World) (h0:w.cell? ⟨g,0,none⟩=some (.bool a)) (h1:w.cell? ⟨g,1,none⟩=some (.bool b)) (h2:w.cell? ⟨g,2,none⟩=some (.bool c)) (hg:g<w.heap.size):
  Calls Tryz.prog 203 #[.slice (some ⟨g,0,none⟩) 3 3] w λe w'=>e = .returned (.int .i64 (bn a+bn b+bn c))/\w'=w:=by
 go_enter Tryz.func203,Tryz.ntmps203;go_wp2;go_loopw [3,8] (λv i wr=>wr=w/\∃k:Nat,k<=3/\i = .int .i64 k/\Hid (∃z:Int,v = .int .i64 z/\(0<=z/\z<=3)/\z=((if 0<k then bn a else 0)+(if 1<k then bn b else 0)+(if 2<k then bn c else 0)))) (λ_ i _=>3-(intOf i).toNat)
 case atStart=>exact ⟨rfl,0,by omega,rfl,0,rfl,⟨by omega,by omega⟩,by simp⟩
 case round=>
  obtain ⟨rfl,k,hk,rfl,HV⟩:=hrel;obtain ⟨z,rfl,hz,hv⟩:=HV.out;have HZ:=hid hv;have ba:bn a=0\/bn a=1:=by cases a <;> simp [bn]
  have bb:bn b=0\/bn b=1:=by cases b <;> simp [bn]
  have bc:bn c=0\/bn c=1:=by cases c <;> simp [bn]
  have ad:k=0\/k=1\/k=2\/k=3:=by omega
  clear HV hv;rcases ad with rfl | rfl | rfl | rfl
  ·have ae:z=0:=by have:=HZ.out;simpa using this
   subst ae;cases a
   ·go_wp2;go_roundw
    case rel=>exact ⟨by trivial,1,by omega,by go_num,0,rfl,⟨by omega,by omega⟩,by simp [bn]⟩
    case measure=>simp [intOf]
   ·go_wp2;go_roundw
    case rel=>exact ⟨by trivial,1,by omega,by go_num,1,rfl,⟨by omega,by omega⟩,by simp [bn]⟩
    case measure=>simp [intOf]
  ·have aa:z=bn a:=by have:=HZ.out;simpa using this
   have af:z<=1:=by omega
   have ab:=hid aa;clear HZ aa ba bb bc;cases b
   ·go_wp2;go_roundw
    case rel=>exact ⟨by trivial,2,by omega,by go_num,z,rfl,hz,by have:=ab.out;simp [bn] at this ⊢;omega⟩
    case measure=>simp [intOf]
   ·go_wp2;go_roundw
    case rel=>exact ⟨by trivial,2,by omega,by go_num,z+1,rfl,⟨by omega,by omega⟩,by have:=ab.out;simp [bn] at this ⊢;omega⟩
    case measure=>simp [intOf]
  ·have aa:z=bn a+bn b:=by have:=HZ.out;simpa using this
   have af:z<=2:=by omega
   have ab:=hid aa;clear HZ aa ba bb bc;cases c
   ·go_wp2;go_roundw
    case rel=>exact ⟨by trivial,3,by omega,by go_num,z,rfl,hz,by have:=ab.out;simp [bn] at this ⊢;omega⟩
    case measure=>simp [intOf]
   ·go_wp2;go_roundw
    case rel=>exact ⟨by trivial,3,by omega,by go_num,z+1,rfl,⟨by omega,by omega⟩,by have:=ab.out;simp [bn] at this ⊢;omega⟩
    case measure=>simp [intOf]
  ·have aa:z=bn a+bn b+bn c:=by have:=HZ.out;simpa using this
   have ab:=hid aa;clear HZ ba bb bc aa;go_wp2;go_ret;exact ⟨by rw [<- ab.out];rfl,rfl⟩
end
section
open Crm
def toB (l:List UInt8):ByteArray:=⟨l.toArray⟩
theorem toB_size (l:List UInt8):(toB l).size=l.length:=by simp [toB,ByteArray.size]
theorem toB_app (l m:List UInt8):toB l++toB m=toB (l++m):=by
 apply ByteArray.ext;rw [ByteArray.data_append];simp [toB]
theorem toB_list (s:ByteArray):toB s.data.toList=s:=by simp [toB]
theorem bt_toB (l:List UInt8) {i:Nat} (h:i<l.length):bt (toB l) i=((l[i]'h).toNat:Int):=by
 have h':i<(toB l).size:=by rw [toB_size];exact h
 rw [<- bt_get _ h'];rfl
theorem toB_ext (l:List UInt8) {i:Nat} (h:i<l.length):(toB l).extract i (i+1)=toB [l[i]'h]:=by
 apply ByteArray.ext;rw [ByteArray.data_extract];apply Array.ext';rw [Array.toList_extract];show (l.drop i).take (i+1-i) = [l[i]];rw [Nat.add_sub_cancel_left,List.drop_eq_getElem_cons h];rfl
def pst (b:Int) (P:List (List UInt8)) (c:UInt8):List (List UInt8):=if (c.toNat:Int)=b then P ++ [[]] else P.set (P.length-1) (P.getD (P.length-1) [] ++ [c])
def pll (b:Int) (l:List UInt8):List (List UInt8):=l.foldl (pst b) [[]]
theorem pst_no {b:Int} {c:UInt8} (A:List (List UInt8)) (h:List UInt8) (hc:(c.toNat:Int)≠b):pst b (A ++ [h]) c=A ++ [h ++ [c]]:=by
 unfold pst;rw [if_neg hc];simp
theorem pst_yes {b:Int} {c:UInt8} (P:List (List UInt8)) (hc:(c.toNat:Int)=b):pst b P c=P ++ [[]]:=by unfold pst;rw [if_pos hc]
theorem pll_run {b:Int}:∀(xs:List UInt8) (A:List (List UInt8)) (h:List UInt8),(∀c ∈ xs,(c.toNat:Int)≠b)->xs.foldl (pst b) (A ++ [h])=A ++ [h++xs]
 | [],A,h,_=>by simp
 | c :: xs,A,h,hx=>by
  rw [List.foldl_cons,pst_no A h (hx c (by simp)),pll_run xs A (h ++ [c]) (λd hd=>hx d (by simp [hd]))]
  simp
theorem pll_cut {b:Int} {c:UInt8} (xs:List UInt8) (A:List (List UInt8)) (hx:∀d ∈ xs,(d.toNat:Int)≠b) (hc:(c.toNat:Int)=b):(xs ++ [c]).foldl (pst b) (A ++ [[]])=A ++ [xs] ++ [[]]:=by
 rw [List.foldl_append,pll_run xs A [] hx,List.nil_append,List.foldl_cons,List.foldl_nil,pst_yes _ hc]
theorem pcs_toB (b:Int) (l:List UInt8):∀k,k<=l.length->pcs (toB l) b k=(pll b (l.take k)).map toB
 | 0,_=>rfl
 | k+1,hk=>by
  have ih:=pcs_toB b l k (by omega)
  have e:pll b (l.take (k+1))=pst b (pll b (l.take k)) (l[k]'hk):=by
   unfold pll;rw [List.take_succ_eq_append_getElem hk,List.foldl_append];rfl
  rw [pcs,e,bt_toB l hk,ih];unfold pst;split
  ·simp [toB,mt]
  ·rw [List.map_set,toB_ext l hk];congr 1
   ·simp
   ·rw [<- toB_app];congr 1;simp [List.getD_eq_getElem?_getD,List.getElem?_map];cases (pll b (l.take k))[(pll b (l.take k)).length-1]? <;> rfl
theorem pcs_all (b:Int) (l:List UInt8):pcs (toB l) b (toB l).size=(pll b l).map toB:=by
 rw [toB_size,pcs_toB b l l.length (Nat.le_refl _),List.take_length]
def dd (u:Nat):List UInt8:=Lib.decDigits u
theorem pst_pre {b:Int} {c:UInt8} (A P:List (List UInt8)) (hP:P≠[]):pst b (A++P) c=A++pst b P c:=by
 rcases List.eq_nil_or_concat P with e | ⟨Q,h,rfl⟩
 ·exact absurd e hP
 ·by_cases hc:(c.toNat:Int)=b
  ·rw [pst_yes _ hc,pst_yes _ hc,List.append_assoc]
  ·rw [List.concat_eq_append,<- List.append_assoc,pst_no _ _ hc,pst_no _ _ hc,List.append_assoc]
theorem pst_ne {b:Int} {c:UInt8} (P:List (List UInt8)) (hP:P≠[]):pst b P c≠[]:=by
 unfold pst;split
 ·simp
 ·intro e;have:=congrArg List.length e;simp at this;exact hP this
theorem pll_pre {b:Int}:∀(l:List UInt8) (A P:List (List UInt8)),P≠[]->l.foldl (pst b) (A++P)=A++l.foldl (pst b) P
 | [],_,_,_=>rfl
 | c :: l,A,P,hP=>by
  rw [List.foldl_cons,List.foldl_cons,pst_pre A P hP]
  exact pll_pre l A _ (pst_ne P hP)
theorem ixb (c:UInt8):∀l:List UInt8,(Lib.indexByte l c = -1/\∀d ∈ l,(d.toNat:Int)≠(c.toNat:Int))\/∃xs ys,l=xs++c :: ys/\(∀d ∈ xs,(d.toNat:Int)≠(c.toNat:Int))/\Lib.indexByte l c=(xs.length:Int)
 | []=>.inl ⟨rfl,λd hd=>by simp at hd⟩
 | d :: l=>by
  by_cases e:d=c
  ·subst e
   exact .inr ⟨[],l,rfl,λd hd=>by simp at hd,by simp [Lib.indexByte]⟩
  ·have hne:(d.toNat:Int)≠(c.toNat:Int):=λe'=>e (UInt8.toNat_inj.1 (by omega))
   have hb:(d==c)=false:=by rw [beq_eq_false_iff_ne];exact e
   rcases ixb c l with ⟨h1,h2⟩ | ⟨xs,ys,h1,h2,h3⟩
   ·refine .inl ⟨by simp [Lib.indexByte,hb,h1],λx hx=>?_⟩
    rcases List.mem_cons.1 hx with rfl | hx
    ·exact hne
    ·exact h2 x hx
   ·refine .inr ⟨d :: xs,ys,by rw [h1];rfl,λx hx=>?_,?_⟩
    ·rcases List.mem_cons.1 hx with rfl | hx
     ·exact hne
     ·exact h2 x hx
    ·simp [Lib.indexByte,hb,h3]
theorem ext_list (s:ByteArray) (a b:Nat):s.extract a b=toB ((s.data.toList.drop a).take (b-a)):=Lib.extract_eq s a b
theorem cut_cases (s:ByteArray) (c:UInt8):(Lib.indexByte s.data.toList c = -1/\pcs s (c.toNat:Int) s.size = [s])\/
  ∃j,Lib.indexByte s.data.toList c=((j:Nat):Int)/\j<s.size/\pcs s (c.toNat:Int) s.size=s.extract 0 j :: pcs (s.extract (j+1) s.size) (c.toNat:Int) (s.extract (j+1) s.size).size:=by
 obtain ⟨l,rfl⟩:∃l,s=toB l:=⟨_,(toB_list s).symm⟩;have hl:(toB l).data.toList=l:=by simp [toB]
 rw [hl,pcs_all];rcases ixb c l with ⟨h1,h2⟩ | ⟨xs,ys,rfl,h2,h3⟩
 ·refine .inl ⟨h1,?_⟩;have:=pll_run l [] [] h2;simp only [List.nil_append] at this;unfold pll;rw [this];rfl
 ·refine .inr ⟨xs.length,h3,by rw [toB_size];simp,?_⟩;have e1:(toB (xs++c :: ys)).extract 0 xs.length=toB xs:=by rw [ext_list,hl];simp
  have e2:(toB (xs++c :: ys)).extract (xs.length+1) (toB (xs++c :: ys)).size=toB ys:=by
   rw [ext_list,hl,toB_size];have:(xs++c :: ys).drop (xs.length+1)=ys:=by
    rw [List.drop_append];simp
   rw [this,List.take_of_length_le (by simp;omega)]
  rw [e1,e2,pcs_all];have e3:pll (c.toNat:Int) (xs++c :: ys)=xs :: pll (c.toNat:Int) ys:=by
   unfold pll;have hc:=pll_cut (b:=(c.toNat:Int)) (c:=c) xs [] h2 rfl;simp only [List.nil_append] at hc;rw [show xs++c :: ys=(xs ++ [c])++ys by simp,List.foldl_append,hc,pll_pre ys [xs] [[]] (by simp)];rfl
  rw [e3];rfl
theorem split_pcs (c:UInt8):∀(k:Nat) (s:ByteArray),s.data.toList.count c=k->Lib.splitB ⟨#[c]⟩ 0 k s=pcs s (c.toNat:Int) s.size
 | k,s,hk=>by
  have hix:Lib.indexB s ⟨#[c]⟩=Lib.indexByte s.data.toList c:=Lib.index_one _ _
  rcases cut_cases s c with ⟨h1,h2⟩ | ⟨j,h1,hj,h2⟩
  ·rw [h2,Lib.splitB_miss _ _ _ _ (by rw [hix];exact h1)]
  ·have hrest:(s.extract (j+1) s.size).data.toList=s.data.toList.drop (j+1):=by
    rw [Lib.extract_data,List.take_of_length_le];rw [List.length_drop,Array.length_toList];exact Nat.le_refl _
   obtain ⟨aa,ab⟩:=Lib.indexByte_some h1;have ad:s.data.toList.count c=(s.data.toList.drop (j+1)).count c+1:=by
    have e:=List.take_append_drop (j+1) s.data.toList;have ag:j<s.data.toList.length:=(List.getElem?_eq_some_iff.1 aa).1;have e2:(s.data.toList.take (j+1)).count c=1:=by
     rw [List.take_add_one,aa,List.count_append];have:(s.data.toList.take j).count c=0:=by
      rw [List.count_eq_zero];intro hm;obtain ⟨i,hi,he⟩:=List.getElem_of_mem hm;have ae:i<j:=by simp at hi;omega
      refine ab i ae ?_;rw [List.getElem?_eq_getElem (by simp at hi;omega)];simpa using he
     rw [this];simp
    have:=congrArg (List.count c) e;rw [List.count_append,e2] at this;omega
   obtain ⟨k',rfl⟩:∃k',k=k'+1:=⟨k-1,by omega⟩;have ih:=split_pcs c k' (s.extract (j+1) s.size) (by rw [hrest];omega);have hh:=Lib.splitB_hit ⟨#[c]⟩ 0 k' s j (by rw [hix];exact h1);have af:(⟨#[c]⟩:ByteArray).size=1:=rfl;rw [h2,hh,af,ih];rfl
end
section
open Crm Go.RowKit Go.Shelf
theorem infoS9:(Tryz.prog.info? 9).map (λi=>(i.zero,i.size,i.bytes))=some (some (.string ByteArray.empty),1,16):=by kernel_rfl
theorem count_pcs (c:UInt8) (s:ByteArray):(pcs s (c.toNat:Int) s.size).length=s.data.toList.count c+1:=by
 rw [<- split_pcs c _ s rfl];refine Lib.splitB_all ⟨#[c]⟩ (Nat.le_refl 1) 0 _ s ?_;exact Lib.count_one c _
theorem wds_len (s:ByteArray):(wds s).length=s.data.toList.count 32+1:=count_pcs 32 s
theorem sSplit (s:ByteArray) (w:World) (hs:s.size<=100000):
  Calls Tryz.prog 15 #[.string s,.string ⟨#[32]⟩] w λe w'=>e = .returned (.slice (some ⟨w.heap.size,0,none⟩) (wds s).length (wds s).length)/\w'=w.alloc (.cells ((wds s).map Value.string).toArray 9):=by
 have hl:=wds_len s;have aa:Lib.countB s ⟨#[32]⟩=s.data.toList.count 32:=Lib.count_one 32 _;have ab:s.data.toList.count 32<=s.size:=by
  have:=List.count_le_length (a:=(32:UInt8)) (l:=s.data.toList);rwa [Array.length_toList] at this
 have hC:Calls Tryz.prog 92 #[.string s,.string ⟨#[32]⟩] w λe w'=>e = .returned (.int .i64 (Lib.countB s ⟨#[32]⟩))/\w'=w:=by
  rw [aa];exact Any.strings_Count_one Tryz.lays138 s 32 w
 have hI:∀(x:ByteArray) (c:Array Value),x.size<=s.size->Calls Tryz.prog 93 #[.string x,.string ⟨#[32]⟩] (w.alloc (.cells c 9)) λe w'=>e = .returned (.int .i64 (Lib.indexB x ⟨#[32]⟩))/\w'=w.alloc (.cells c 9):=λx c _=>by
  have e:Lib.indexB x ⟨#[32]⟩=Lib.indexByte x.data.toList 32:=Lib.index_one _ _;rw [e];exact Any.strings_Index_one Tryz.lays143 x 32 _
 have hG:=Any.strings_genSplit_core Tryz.lays221 infoS9 s ⟨#[32]⟩ 0 (-1) (s.data.toList.count 32+1) w (by omega) (by decide) (Nat.zero_le _) hI hC (by decide) (by decide) (by rw [if_pos (by decide),aa];omega);rw [Nat.add_sub_cancel,split_pcs 32 _ s rfl] at hG;have e2:Lib.cellsOf (pcs s (((32:UInt8).toNat:Nat):Int) s.size) (s.data.toList.count 32+1)=((wds s).map Value.string).toArray:=by
  rw [<- hl];exact Lib.cellsOf_full _
 rw [e2] at hG;have ad:Calls Tryz.prog 38 #[.string s,.string ⟨#[32]⟩,.int .i64 0,.int .i64 (-1)] w λe w'=>e = .returned (.slice (some ⟨w.heap.size,0,none⟩) (wds s).length (wds s).length)/\w'=w.alloc (.cells ((wds s).map Value.string).toArray 9):=by
  refine hG.mono ?_;rintro e w' ⟨rfl,rfl⟩;exact ⟨by rw [hl];show Ending.returned (Value.slice _ (wds s).length _)=_;rw [hl],rfl⟩
 clear hG hI hC e2 aa ab hl;go_enter Tryz.func15,Tryz.ntmps15;go_wp2_with (go_at_call 38;refine ad.mono ?_;rintro e w' ⟨rfl,hw⟩;rw [hw]);go_ret;exact ⟨rfl,rfl⟩
theorem rdT_alloc (w:World) (L:List ByteArray) (hl:L.length<=200000) (hb:∀x ∈ L,x.size<=9223372036854775807):RdT (w.alloc (.cells (L.map Value.string).toArray 9)) (some ⟨w.heap.size,0,none⟩) L.length L.length L:=by
 refine ⟨rfl,Nat.le_refl _,by unfold maxLen;omega,by simp,λi hi=>?_,λx hx i hi=>?_⟩
 ·unfold tx;rw [List.getD_eq_getElem?_getD,List.getElem?_eq_getElem hi];exact hb _ (List.getElem_mem _)
 ·obtain rfl:=Option.some.inj hx;rw [Addr.add_lit,Nat.zero_add,World.cell?_alloc_at _ _ _ _ rfl,List.getElem?_toArray,List.getElem?_map,List.getElem?_eq_getElem hi];unfold tx;rw [List.getD_eq_getElem?_getD,List.getElem?_eq_getElem hi];rfl
theorem sCutN (s:ByteArray) (w:World) (h:Lib.indexByte s.data.toList 10 = -1):
  Calls Tryz.prog 137 #[.string s,.string ⟨#[10]⟩] w λe w'=>e = .returned (.tuple #[.string s,.string ⟨#[]⟩,.bool false])/\Below w.heap.size w w':=by
 have hI:∀W,Calls Tryz.prog 131 #[.string s,.string ⟨#[10]⟩] W λe w'=>e = .returned (.int .i64 (-1))/\w'=W:=λW=>by
  rw [<- h];exact Any.stringslite_Index_one Tryz.lays219 s 10 W
 have hC:Calls Tryz.prog 176 #[.string s,.string ⟨#[10]⟩] w λe w'=>e = .returned (.tuple #[.string s,.string ⟨#[]⟩,.bool false])/\Below w.heap.size w w':=by
  go_enter Tryz.func176,Tryz.ntmps176;go_wp2_with (go_at_call 131;refine (hI _).mono ?_;rintro e w' ⟨rfl,hw⟩;have hw:=hw.symm;subst hw);go_ret3;exact ⟨rfl,Below.refl _ _⟩
 go_enter Tryz.func137,Tryz.ntmps137;go_wp2_with (go_at_call 176;refine hC.mono ?_;rintro e w' ⟨rfl,hb⟩);go_ret3;exact ⟨rfl,hb⟩
theorem sCutY (s:ByteArray) (j:Nat) (w:World) (h:Lib.indexByte s.data.toList 10=(j:Int)) (hj:j<s.size) (hs:s.size<=100000):
  Calls Tryz.prog 137 #[.string s,.string ⟨#[10]⟩] w λe w'=>e = .returned (.tuple #[.string (s.extract 0 j),.string (s.extract (j+1) s.size),.bool true])/\Below w.heap.size w w':=by
 have hI:∀W,Calls Tryz.prog 131 #[.string s,.string ⟨#[10]⟩] W λe w'=>e = .returned (.int .i64 (j:Int))/\w'=W:=λW=>by
  rw [<- h];exact Any.stringslite_Index_one Tryz.lays219 s 10 W
 have hC:Calls Tryz.prog 176 #[.string s,.string ⟨#[10]⟩] w λe w'=>e = .returned (.tuple #[.string (s.extract 0 j),.string (s.extract (j+1) s.size),.bool true])/\Below w.heap.size w w':=by
  have c1:(0:Int)<=↑j:=by omega
  have c2:(↑j:Int)<=↑s.size:=by omega
  have c4:(↑j+1:Int)<=↑s.size:=by omega
  have c5:(0:Int)<=↑j+1:=by omega
  go_enter Tryz.func176,Tryz.ntmps176;go_wp2_with (go_at_call 131;refine (hI _).mono ?_;rintro e w' ⟨rfl,hw⟩;have hw:=hw.symm;subst hw);go_region;go_wp2;go_ret3;exact ⟨rfl,(Below.refl _ _).drew⟩
 go_enter Tryz.func137,Tryz.ntmps137;go_wp2_with (go_at_call 176;refine hC.mono ?_;rintro e w' ⟨rfl,hb⟩);go_ret3;exact ⟨rfl,hb⟩
end
section
open Crm
def nmg (g:Gt):Gt:=⟨g.k,g.a,g.b,nm g.n⟩
end
section
open Crm Go.RowKit
theorem gt_map (G:List Gt) (i:Nat):gt (G.map nmg) i=nmg (gt G i):=by
 unfold gt;rw [List.getD_eq_getElem?_getD,List.getD_eq_getElem?_getD,List.getElem?_map];cases G[i]? with
 | none=>rfl
 | some g=>rfl
theorem okg_nmz {i:Nat} {g:Gt} (h:g.k=2\/g.k=6\/g.n=0):okg i (nmg g)↔okg i g:=by
 have n0:nm 0=0:=rfl;unfold okg nmg;simp only;rcases h with h | h | h
 ·rw [h];omega
 ·rw [h];omega
 ·rw [h,n0]
theorem lng_zn {t g} (h:Lng t g):g.k=2\/g.k=6\/g.n=0:=by
 obtain ⟨k,hk,_,_,_,rfl⟩:=h;rcases arn_of hk.1 hk.2 with ⟨rfl,_⟩ | ⟨rfl,_⟩ | ⟨rfl,_⟩ | ⟨h3,_⟩
 ·exact .inr (.inr rfl)
 ·exact .inl rfl
 ·exact .inr (.inl rfl)
 ·refine .inr (.inr ?_);unfold gof;rw [if_neg (by omega),if_neg (by omega),if_neg (by omega)]
theorem Rds.zn {l:List ByteArray}:∀{i:Nat} {G:List Gt} {O:List Int},Rds l i G O->∀g ∈ G,g.k=2\/g.k=6\/g.n=0
 | 0,_,_,h,g,hg=>by obtain ⟨rfl,rfl⟩:=h;simp at hg
 | i+1,_,_,h,g,hg=>by
  obtain ⟨G0,O0,h0,h1⟩:=h
  rcases h1 with ⟨g',a,_,rfl,rfl⟩ | ⟨x,_,rfl,rfl⟩
  ·rcases List.mem_append.1 hg with hg | hg
   ·exact h0.zn g hg
   ·obtain rfl:=List.mem_singleton.1 hg
    exact lng_zn a
  ·exact h0.zn g hg
theorem Rds.len {l:List ByteArray}:∀{i:Nat} {G:List Gt} {O:List Int},Rds l i G O->G.length+O.length=i
 | 0,_,_,h=>by obtain ⟨rfl,rfl⟩:=h;rfl
 | i+1,_,_,h=>by
  obtain ⟨G0,O0,h0,h1⟩:=h
  have:=h0.len
  rcases h1 with ⟨g',_,rfl,rfl,rfl⟩ | ⟨x,_,rfl,rfl⟩
  ·simp at this ⊢;omega
  ·simp;omega
theorem okG_nmz {G:List Gt} (h:∀g ∈ G,g.k=2\/g.k=6\/g.n=0) (n:Nat):okG (G.map nmg) n↔okG G n:=by
 have hg:∀i,(gt G i).k=2\/(gt G i).k=6\/(gt G i).n=0:=λi=>by
  by_cases hi:i<G.length
  ·exact h _ (gt_mem hi)
  ·refine .inr (.inr ?_);unfold gt;rw [List.getD_eq_getElem?_getD,List.getElem?_eq_none (by omega)];rfl
 constructor
 ·intro e i hi;have:=e i hi;rw [gt_map] at this;exact (okg_nmz (hg i)).1 this
 ·intro e i hi;rw [gt_map];exact (okg_nmz (hg i)).2 (e i hi)
theorem cke_nm {G:List Gt} {O:List Int} {n m:Nat} {r:Int} (h:∀g ∈ G,g.k=2\/g.k=6\/g.n=0):Cke (G.map nmg) O n m r↔Cke G O n m r:=by
 unfold Cke;rw [okG_nmz h]
theorem gbd_nm {G:List Gt} (h:∀g ∈ G,gbd g):∀g ∈ G.map nmg,gbd g:=λg hg=>by
 obtain ⟨g',hg',rfl⟩:=List.mem_map.1 hg
 have h1:=h g' hg'
 have h2:=nm_bd g'.n
 unfold gbd at h1 ⊢
 unfold nmg
 simp only
 omega
def Rst (s:ByteArray) (i:Nat) (r:ByteArray):Prop:=∃P,lns s=P++lns r/\P.length=i
theorem Rst.start (s:ByteArray):Rst s 0 s:=⟨[],rfl,rfl⟩
theorem Rst.last {s r i} (h:Rst s i r) (hr:lns r = [r]):lnn s=i/\tx (lns s) (lnn s)=r:=by
 obtain ⟨P,h1,rfl⟩:=h;have e:lnn s=P.length:=by unfold lnn;rw [h1,hr];simp
 refine ⟨e,?_⟩
 rw [e,h1,hr];simp [tx]
theorem Rst.next {s r} {t u:ByteArray} {i} (h:Rst s i r) (hr:lns r=t :: lns u):Rst s (i+1) u/\tx (lns s) i=t/\i<lnn s:=by
 obtain ⟨P,h1,rfl⟩:=h;refine ⟨⟨P ++ [t],by rw [h1,hr];simp,by simp⟩,?_,?_⟩
 ·rw [h1,hr];simp [tx]
 ·have:=lns_len u;unfold lnn;rw [h1,hr];simp;omega
theorem lns_mt:lns mt = [mt]:=rfl
def Prn (s:ByteArray) (w:World) (e:Ending) (w':World):Prop:=
 ∃(ag:Option Addr) (cg:Nat) (ao:Option Addr) (co at_:Nat) (r:Int) (G:List Gt) (O:List Int),e = .returned (.tuple #[.agg #[.slice ag G.length cg,.slice ao O.length co],.int .i64 (at_:Int),.int .i64 r])/\Par s G O at_ r/\
  w'.ownsRow w.heap.size 138 4 (.slice ag G.length cg) G.length (gcs (G.map nmg))/\w'.ownsRow w.heap.size 3 1 (.slice ao O.length co) O.length (zns O)/\Below w.heap.size w w'
theorem Prn.err {s} {w:World} {w' r n} (h:Par s [] [] n r) (hb:Below w.heap.size w w'):Prn s w (.returned (.tuple #[.agg #[.slice none 0 0,.slice none 0 0],.int .i64 (n:Int),.int .i64 r])) w':=
 ⟨none,0,none,0,n,r,[],[],rfl,h,World.ownsRow_nil _ _ _ _,World.ownsRow_nil _ _ _ _,hb⟩
end
end Go.Proofs.YtljlioglpaogdacGreatDoor

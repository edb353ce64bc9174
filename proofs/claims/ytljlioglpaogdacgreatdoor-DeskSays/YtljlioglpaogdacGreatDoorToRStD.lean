/- AnyM GateM EngM KeyM KeySt KeyD RStA MixC TJoinC TwSqM TwRowC RStB RStC RStD -/
import Derived.Test.YtljlioglpaogdacGreatDoorToLstC
import Derived.Test.YtljlioglpaogdacGreatDoorToShpM
import Derived.Test.YtljlioglpaogdacGreatDoorToMissC
import Derived.Test.YtljlioglpaogdacGreatDoorToLsV2
namespace Go.Proofs.YtljlioglpaogdacGreatDoor
set_option linter.unusedVariables false
set_option maxRecDepth 100000
set_option maxHeartbeats 8000000
section
open Crm
theorem sum_wt {ts C:List Int} {K} (hd:dis (fi ts) K) (hC:C.length<=K) (y:Nat->Int) (hy:∀j,j<K->nm (y j)=nm (ev C (ts.getD j 0))):nm (sm (λi=>wt ts K i*y i) K)=nm (ev C 0):=by
 have ab:∀k,k<=K->∃R:List Int,R.length<=K/\(∀j,j<K->nm (ev R (ts.getD j 0))=if j<k then nm (y j) else 0)/\nm (ev R 0)=nm (sm (λi=>wt ts K i*y i) k):=by
  intro k;induction k with
  | zero=>exact λ_=>⟨[],Nat.zero_le _,λj _=>by rw [if_neg (by omega)];rfl,rfl⟩
  | succ k ih=>
   intro hk;obtain ⟨R,r1,r2,r3⟩:=ih (by omega);obtain ⟨Q,q1,q2,q3⟩:=wt_wgt hd (show k<K by omega);have aa:∀x,nm (ev (sml R (cvl [y k] Q)) x)=nm (ev R x+y k*ev Q x):=λx=>by
    rw [sml_ev];refine nm_add_congr rfl ?_;rw [cvl_ev,ev,ev,Int.mul_zero,Int.add_zero]
   refine ⟨sml R (cvl [y k] Q),?_,λj hj=>?_,?_⟩
   ·rw [sml_len,cvl_len,List.length_singleton];omega
   ·rw [aa];have h1:=q2 j hj;have h2:=r2 j hj;by_cases e:j=k
    ·subst e;rw [if_pos rfl] at h1;rw [if_neg (by omega)] at h2;rw [if_pos (by omega),nm_add_congr (c:=0) (d:=y j*1) h2 (nm_mul_congr rfl (by rw [h1];rfl)),Int.zero_add,Int.mul_one]
    ·rw [if_neg e] at h1;rw [nm_add_congr (c:=ev R (ts.getD j 0)) (d:=y k*0) rfl (nm_mul_congr rfl (by rw [h1];rfl)),Int.mul_zero,Int.add_zero,h2];by_cases e2:j<k
     ·rw [if_pos e2,if_pos (by omega)]
     ·rw [if_neg e2,if_neg (by omega)]
   ·rw [aa,sm];refine nm_add_congr r3 ?_;rw [q3,nm_mull,Int.mul_comm]
 obtain ⟨R,r1,r2,r3⟩:=ab K (Nat.le_refl _);rw [<- r3];have hw:∀j,j<K->((List.range K).map λk=>(ts.getD k 0,y k)).getD j (0,0)=(ts.getD j 0,y j):=λj hj=>by simp [hj]
 refine ev_one (hs_one (l:=(List.range K).map λk=>(ts.getD k 0,y k)) (n:=K) (λj hj=>?_) (λj hj=>?_) (λj hj=>?_) r1 hC) 0
 ·rw [hw j hj];refine ⟨⟨(hd j hj).1.1,by have:=(hd j hj).1.2;unfold fi at this;simp only;omega⟩,λq hq=>?_⟩
  rw [hw q (by omega)];exact (hd j hj).2 q hq
 ·rw [hw j hj];simp only;rw [r2 j hj,if_pos hj]
 ·rw [hw j hj];simp only;exact (hy j hj).symm
def mxl (x y:List Int) (a b c:Int) (n:Nat):List Int:=(List.range n).map λi=>nm (a*x.getD i 0+b*y.getD i 0+c)
theorem mxl_len (x y:List Int) (a b c:Int) (n:Nat):(mxl x y a b c n).length=n:=by simp [mxl]
theorem mxl_getD (x y:List Int) (a b c:Int) {n i:Nat} (h:i<n):(mxl x y a b c n).getD i 0=nm (a*x.getD i 0+b*y.getD i 0+c):=by simp [mxl,h]
theorem mxl_snoc (x y:List Int) (a b c:Int) (n:Nat):mxl x y a b c n ++ [nm (a*x.getD n 0+b*y.getD n 0+c)]=mxl x y a b c (n+1):=by simp [mxl,List.range_succ]
theorem mxl_bd (x y:List Int) (a b c:Int) (n:Nat):∀z ∈ mxl x y a b c n,0<=z/\z<=2147483646:=by
 intro z hz;obtain ⟨i,_,rfl⟩:=List.mem_map.1 hz;exact nm_bd _
theorem mxl_one {a b c p q:Int}:nm (nm (nm (a*p)+nm (b*q))+c)=nm (a*p+b*q+c):=by
 rw [nm_addl];refine nm_add_congr ?_ rfl;exact nm_add_congr (nm_nm _) (nm_nm _)
theorem mxl_ext {x y:List Int} {a b c:Int} {n:Nat} {F:Nat->Int} (h:∀i,i<n->F i=nm (a*x.getD i 0+b*y.getD i 0+c)):(List.range n).map F=mxl x y a b c n:=
 List.map_congr_left λi hi=>h i (List.mem_range.1 hi)
def pty (n:Nat):List Int:=(List.range n).map λi:Nat=>(i:Int)+1
theorem pty_getD {n i:Nat} (h:i<n):(pty n).getD i 0=(i:Int)+1:=by simp [pty,h]
theorem pty_snoc (n:Nat):pty n ++ [(n:Int)+1]=pty (n+1):=by simp [pty,List.range_succ]
theorem pty_dis {n:Nat} (h:n<=9):dis (fi (pty n)) n:=λi hi=>by
 unfold fi
 rw [pty_getD hi]
 exact ⟨⟨by omega,by omega⟩,λj hj=>by rw [pty_getD (show j<n by omega)];omega⟩
def prC (t:Nat) (a b ds:List Int) (i:Nat):List Int:=nm (a.getD i 0*b.getD i 0) :: (ds.drop (i*t)).take t
theorem prC_len (t:Nat) (a b ds:List Int) (i:Nat):(prC t a b ds i).length<=t+1:=by
 unfold prC;rw [List.length_cons,List.length_take];omega
def tmR (t:Nat) (a b ds:List Int) (k j:Nat):List Int:=(List.range k).map λi=>dlf (prC t a b ds i) j
theorem tmR_len (t:Nat) (a b ds:List Int) (k j:Nat):(tmR t a b ds k j).length=k:=by simp [tmR]
theorem tmR_getD (t:Nat) (a b ds:List Int) {k i:Nat} (j:Nat) (h:i<k):(tmR t a b ds k j).getD i 0=dlf (prC t a b ds i) j:=by simp [tmR,h]
theorem tmR_snoc (t:Nat) (a b ds:List Int) (k j:Nat):tmR t a b ds k j ++ [dlf (prC t a b ds k) j]=tmR t a b ds (k+1) j:=by simp [tmR,List.range_succ]
theorem tmR_bd (t:Nat) (a b ds:List Int) (k j:Nat):∀z ∈ tmR t a b ds k j,0<=z/\z<=2147483646:=by
 intro z hz;obtain ⟨i,_,rfl⟩:=List.mem_map.1 hz;exact dlf_bd _ _
def tmG (t:Nat) (a b ds:List Int) (n:Nat):List (List Int):=(List.range n).map λj=>tmR t a b ds n j
theorem tmG_len (t:Nat) (a b ds:List Int) (n:Nat):(tmG t a b ds n).length=n:=by simp [tmG]
theorem tmG_getD (t:Nat) (a b ds:List Int) {n j:Nat} (h:j<n):(tmG t a b ds n).getD j []=tmR t a b ds n j:=by simp [tmG,h]
def tmf (t:Nat) (a b ds:List Int) (n j:Nat):Int:=nm (sm (λi=>wt (pty n) n i*dlf (prC t a b ds i) j) n)
def tmO (t:Nat) (a b ds:List Int) (n k:Nat):List Int:=(List.range k).map (tmf t a b ds n)
theorem tmO_len (t:Nat) (a b ds:List Int) (n k:Nat):(tmO t a b ds n k).length=k:=by simp [tmO]
theorem tmO_getD (t:Nat) (a b ds:List Int) (n:Nat) {k j:Nat} (h:j<k):(tmO t a b ds n k).getD j 0=tmf t a b ds n j:=by simp [tmO,h]
theorem tmO_snoc (t:Nat) (a b ds:List Int) (n k:Nat):tmO t a b ds n k ++ [tmf t a b ds n k]=tmO t a b ds n (k+1):=by simp [tmO,List.range_succ]
theorem tmO_bd (t:Nat) (a b ds:List Int) (n k:Nat):∀z ∈ tmO t a b ds n k,0<=z/\z<=2147483646:=by
 intro z hz;obtain ⟨i,_,rfl⟩:=List.mem_map.1 hz;exact nm_bd _
theorem tm_poly (t:Nat) (a b ds:List Int) (W:Nat->Int):∀k,∃P:List Int,P.length<=t+1/\∀x,ev P x=sm (λi=>W i*ev (prC t a b ds i) x) k
 | 0=>⟨[],Nat.zero_le _,λ_=>rfl⟩
 | k+1=>by
  obtain ⟨P,h1,h2⟩:=tm_poly t a b ds W k
  refine ⟨adl (W k) P (prC t a b ds k),?_,λx=>?_⟩
  ·rw [adl_len];have:=prC_len t a b ds k;omega
  ·rw [adl_ev,h2,sm]
theorem times_dealt {t n:Nat} {A B ds:List Int} (hA:A.length<=t+1) (hB:B.length<=t+1) (hn:2*t+1<=n) (hn9:n<=9):
  ∃P:List Int,P.length<=t+1/\(∀j,j<n->tmf t (dl A n) (dl B n) ds n j=nm (ev P ((j:Int)+1)))/\nm (ev P 0)=nm (ev A 0*ev B 0):=by
 obtain ⟨P,h1,h2⟩:=tm_poly t (dl A n) (dl B n) ds (wt (pty n) n) n;refine ⟨P,h1,λj _=>?_,?_⟩
 ·unfold tmf;rw [h2];refine sm_ncongr λi hi=>?_;unfold dlf;rw [nm_mulr]
 ·rw [h2];have h3:=sum_wt (pty_dis hn9) (C:=cvl A B) (by rw [cvl_len];omega) (λi=>ev (prC t (dl A n) (dl B n) ds i) 0) (λj hj=>by
   unfold prC;rw [ev,Int.zero_mul,Int.add_zero,nm_nm,cvl_ev,dl_getD A hj,dl_getD B hj,pty_getD hj];unfold dlf;exact nm_mul_congr (nm_nm _) (nm_nm _))
  rw [h3,cvl_ev]
theorem shl_hs {C L:List Int} {n:Nat} (h:∀i,i<n->L.getD i 0=nm (ev C ((i:Int)+1))):Hs (shl L n) n C:=λj hj=>by
 rw [shl_getD L hj]
 simp only
 rw [h j hj,nm_nm]
theorem shl_dis (L:List Int) {n:Nat} (h:n<=9):dis (fa (shl L n)) n:=λi hi=>by
 unfold fa
 rw [shl_getD L hi]
 exact ⟨⟨by simp only;omega,by simp only;omega⟩,λj hj=>by rw [shl_getD L (show j<n by omega)];simp only;omega⟩
theorem shl_open {C L:List Int} {n t:Nat} {x r} (hn:n<=9) (ht:t<=4) (htn:t<n) (hC:C.length<=t+1) (h:∀i,i<n->L.getD i 0=nm (ev C ((i:Int)+1))) (hO:Opn (shl L n) n t x r):x=nm (ev C 0)/\r=0:=
 any_open (shl_dis L hn) ht htn hC (shl_hs h) hO
theorem mxl_dealt {A B:List Int} {a b c:Int} {n t:Nat} (hA:A.length<=t+1) (hB:B.length<=t+1):
  ∃P:List Int,P.length<=t+1/\(∀i,i<n->(mxl (dl A n) (dl B n) a b c n).getD i 0=nm (ev P ((i:Int)+1)))/\nm (ev P 0)=nm (a*ev A 0+b*ev B 0+c):=by
 have e:∀x,ev (adl 1 (adl b (A.map (a * ·)) B) [c]) x=a*ev A x+b*ev B x+c:=λx=>by
  rw [adl_ev,adl_ev,map_ev,ev,ev,Int.mul_zero,Int.add_zero,Int.one_mul]
 refine ⟨adl 1 (adl b (A.map (a * ·)) B) [c],?_,λi hi=>?_,by rw [e]⟩
 ·rw [adl_len,adl_len,List.length_map,List.length_singleton];omega
 ·rw [mxl_getD _ _ _ _ _ hi,dl_getD A hi,dl_getD B hi,e];refine nm_add_congr (nm_add_congr ?_ ?_) rfl
  ·unfold dlf;rw [nm_mulr]
  ·unfold dlf;rw [nm_mulr]
def dwn (G:List Gt) (n t:Nat):Nat->Nat
 | 0=>0
 | i+1=>dwn G n t i+(if (gt G i).k=1 then t else if (gt G i).k=5 then n*t else 0)
def edr (G:List Gt) (n t:Nat) (ds:List Int) (i k:Nat):List Int:=(ds.drop (dwn G n t i)).take k
def esh (G:List Gt) (n t:Nat) (ins ds:List Int) (W:List (List Int)) (i:Nat):List Int:=
 if (gt G i).k=1 then dl (ins.getD (ci G i) 0 :: edr G n t ds i t) n
 else if (gt G i).k=2 then List.replicate n (nm (gt G i).n)
 else if (gt G i).k=3 then mxl (W.getD (gt G i).a.toNat []) (W.getD (gt G i).b.toNat []) 1 1 0 n
 else if (gt G i).k=4 then mxl (W.getD (gt G i).a.toNat []) (W.getD (gt G i).b.toNat []) 1 2147483646 0 n
 else if (gt G i).k=6 then mxl (W.getD (gt G i).a.toNat []) (W.getD (gt G i).a.toNat []) (gt G i).n 0 0 n
 else tmO t (W.getD (gt G i).a.toNat []) (W.getD (gt G i).b.toNat []) (edr G n t ds i (n*t)) n n
def ewr (G:List Gt) (n t:Nat) (ins ds:List Int):Nat->List (List Int)
 | 0=>[]
 | i+1=>ewr G n t ins ds i ++ [esh G n t ins ds (ewr G n t ins ds i) i]
def ew (G:List Gt) (n t:Nat) (ins ds:List Int) (i:Nat):List Int:=esh G n t ins ds (ewr G n t ins ds i) i
theorem esh_len (G:List Gt) (n t:Nat) (ins ds:List Int) (W:List (List Int)) (i:Nat):(esh G n t ins ds W i).length=n:=by
 unfold esh;repeat' split
 ·exact dl_len _ _
 ·simp
 ·exact mxl_len _ _ _ _ _ _
 ·exact mxl_len _ _ _ _ _ _
 ·exact mxl_len _ _ _ _ _ _
 ·exact tmO_len _ _ _ _ _ _
theorem esh_bd (G:List Gt) (n t:Nat) (ins ds:List Int) (W:List (List Int)) (i:Nat):∀z ∈ esh G n t ins ds W i,0<=z/\z<=2147483646:=by
 unfold esh;repeat' split
 ·exact dl_bd _ _
 ·intro z hz;obtain rfl:=List.eq_of_mem_replicate hz;exact nm_bd _
 ·exact mxl_bd _ _ _ _ _ _
 ·exact mxl_bd _ _ _ _ _ _
 ·exact mxl_bd _ _ _ _ _ _
 ·exact tmO_bd _ _ _ _ _ _
theorem ew_len (G:List Gt) (n t:Nat) (ins ds:List Int) (i:Nat):(ew G n t ins ds i).length=n:=esh_len _ _ _ _ _ _ _
theorem ew_bd (G:List Gt) (n t:Nat) (ins ds:List Int) (i:Nat):∀z ∈ ew G n t ins ds i,0<=z/\z<=2147483646:=esh_bd _ _ _ _ _ _ _
theorem ewr_len (G:List Gt) (n t:Nat) (ins ds:List Int):∀i,(ewr G n t ins ds i).length=i
 | 0=>rfl
 | i+1=>by rw [ewr,List.length_append,ewr_len G n t ins ds i];rfl
theorem ewr_succ (G:List Gt) (n t:Nat) (ins ds:List Int) (i:Nat):ewr G n t ins ds (i+1)=ewr G n t ins ds i ++ [ew G n t ins ds i]:=rfl
theorem ewr_getD (G:List Gt) (n t:Nat) (ins ds:List Int) {j:Nat}:∀{i:Nat},j<i->(ewr G n t ins ds i).getD j []=ew G n t ins ds j
 | 0,h=>by omega
 | i+1,h=>by
  have hl:=ewr_len G n t ins ds i
  rw [ewr_succ]
  by_cases e:j=i
  ·subst e
   rw [List.getD_eq_getElem?_getD,List.getElem?_append_right (by omega),hl,Nat.sub_self]
   rfl
  ·rw [List.getD_eq_getElem?_getD,List.getElem?_append_left (by omega),<- List.getD_eq_getElem?_getD]
   exact ewr_getD G n t ins ds (by omega)
theorem ew_in {G:List Gt} {n t:Nat} {ins ds:List Int} {i:Nat} (h:(gt G i).k=1):ew G n t ins ds i=dl (ins.getD (ci G i) 0 :: edr G n t ds i t) n:=by unfold ew esh;rw [if_pos h]
theorem ew_const {G:List Gt} {n t:Nat} {ins ds:List Int} {i:Nat} (h:(gt G i).k=2):ew G n t ins ds i=List.replicate n (nm (gt G i).n):=by unfold ew esh;rw [if_neg (by omega),if_pos h]
theorem ew_add {G:List Gt} {n t:Nat} {ins ds:List Int} {i a b:Nat} (h:(gt G i).k=3) (ha:(gt G i).a=(a:Int)) (hi:a<i) (hb:(gt G i).b=(b:Int)) (hj:b<i):ew G n t ins ds i=mxl (ew G n t ins ds a) (ew G n t ins ds b) 1 1 0 n:=by
 unfold ew;rw [esh,if_neg (by omega),if_neg (by omega),if_pos h,ha,hb,Int.toNat_natCast,Int.toNat_natCast,ewr_getD G n t ins ds hi,ewr_getD G n t ins ds hj];rfl
theorem ew_sub {G:List Gt} {n t:Nat} {ins ds:List Int} {i a b:Nat} (h:(gt G i).k=4) (ha:(gt G i).a=(a:Int)) (hi:a<i) (hb:(gt G i).b=(b:Int)) (hj:b<i):ew G n t ins ds i=mxl (ew G n t ins ds a) (ew G n t ins ds b) 1 2147483646 0 n:=by
 unfold ew;rw [esh,if_neg (by omega),if_neg (by omega),if_neg (by omega),if_pos h,ha,hb,Int.toNat_natCast,Int.toNat_natCast,ewr_getD G n t ins ds hi,ewr_getD G n t ins ds hj];rfl
theorem ew_scale {G:List Gt} {n t:Nat} {ins ds:List Int} {i a:Nat} (h:(gt G i).k=6) (ha:(gt G i).a=(a:Int)) (hi:a<i):ew G n t ins ds i=mxl (ew G n t ins ds a) (ew G n t ins ds a) (gt G i).n 0 0 n:=by
 unfold ew;rw [esh,if_neg (by omega),if_neg (by omega),if_neg (by omega),if_neg (by omega),if_pos h,ha,Int.toNat_natCast,ewr_getD G n t ins ds hi];rfl
theorem ew_mul {G:List Gt} {n t:Nat} {ins ds:List Int} {i a b:Nat} (h:(gt G i).k=5) (ha:(gt G i).a=(a:Int)) (hi:a<i) (hb:(gt G i).b=(b:Int)) (hj:b<i):ew G n t ins ds i=tmO t (ew G n t ins ds a) (ew G n t ins ds b) (edr G n t ds i (n*t)) n n:=by
 unfold ew;rw [esh,if_neg (by omega),if_neg (by omega),if_neg (by omega),if_neg (by omega),if_neg (by omega),ha,hb,Int.toNat_natCast,Int.toNat_natCast,ewr_getD G n t ins ds hi,ewr_getD G n t ins ds hj];rfl
theorem dl_of {P L:List Int} {n:Nat} (hl:L.length=n) (h:∀i,i<n->L.getD i 0=nm (ev P ((i:Int)+1))):L=dl P n:=by
 refine list_ext (by rw [hl,dl_len]) λi hi=>?_;rw [hl] at hi;rw [h i hi,dl_getD P hi];rfl
theorem ew_poly {G N} {n t:Nat} {ins ds:List Int} (hG:okG G N) (hn:2*t+1<=n) (hn9:n<=9):∀i,i<N->∃P:List Int,P.length<=t+1/\ew G n t ins ds i=dl P n/\nm (ev P 0)=wi G ins i:=by
 intro i;induction i using Nat.strongRecOn with
 | _ i ih=>
  intro hi;rcases hG i hi with ⟨h1,_,_,_⟩ | ⟨h1,_,_⟩ | ⟨h1,h2,_⟩ | ⟨h1,h2,h3,_⟩
  ·refine ⟨_,?_,ew_in h1,?_⟩
   ·unfold edr;rw [List.length_cons,List.length_take];omega
   ·rw [wi_in h1,ev,Int.zero_mul,Int.add_zero]
  ·refine ⟨[nm (gt G i).n],by simp,?_,?_⟩
   ·rw [ew_const h1];refine dl_of (by simp) λj hj=>?_;rw [ev,ev,Int.mul_zero,Int.add_zero,nm_nm];simp [hj]
   ·rw [wi_const h1,ev,Int.zero_mul,Int.add_zero,nm_nm]
  ·obtain ⟨a,ha⟩:∃a:Nat,(gt G i).a=a:=⟨(gt G i).a.toNat,by omega⟩;obtain ⟨A,a1,a2,a3⟩:=ih a (by omega) (by omega);obtain ⟨P,p1,p2,p3⟩:=mxl_dealt (A:=A) (B:=A) (a:=(gt G i).n) (b:=0) (c:=0) (n:=n) a1 a1;rw [<- a2] at p2;refine ⟨P,p1,?_,?_⟩
   ·rw [ew_scale h1 ha (by omega)];exact dl_of (mxl_len _ _ _ _ _ _) p2
   ·rw [p3,wi_scale h1 ha (by omega),Int.zero_mul,Int.add_zero,Int.add_zero,Int.mul_comm,<- a3,nm_mull]
  ·obtain ⟨a,ha⟩:∃a:Nat,(gt G i).a=a:=⟨(gt G i).a.toNat,by omega⟩;obtain ⟨b,hb⟩:∃b:Nat,(gt G i).b=b:=⟨(gt G i).b.toNat,by omega⟩;obtain ⟨A,a1,a2,a3⟩:=ih a (by omega) (by omega);obtain ⟨B,b1,b2,b3⟩:=ih b (by omega) (by omega);rcases h1 with h1 | h1 | h1
   ·obtain ⟨P,p1,p2,p3⟩:=mxl_dealt (A:=A) (B:=B) (a:=1) (b:=1) (c:=0) (n:=n) a1 b1;rw [<- a2,<- b2] at p2;refine ⟨P,p1,?_,?_⟩
    ·rw [ew_add h1 ha (by omega) hb (by omega)];exact dl_of (mxl_len _ _ _ _ _ _) p2
    ·rw [p3,wi_add h1 ha (by omega) hb (by omega),<- a3,<- b3];unfold nm;omega
   ·obtain ⟨P,p1,p2,p3⟩:=mxl_dealt (A:=A) (B:=B) (a:=1) (b:=2147483646) (c:=0) (n:=n) a1 b1;rw [<- a2,<- b2] at p2;refine ⟨P,p1,?_,?_⟩
    ·rw [ew_sub h1 ha (by omega) hb (by omega)];exact dl_of (mxl_len _ _ _ _ _ _) p2
    ·rw [p3,wi_sub h1 ha (by omega) hb (by omega),<- a3,<- b3];unfold nm;omega
   ·obtain ⟨P,p1,p2,p3⟩:=times_dealt (t:=t) (n:=n) (A:=A) (B:=B) (ds:=edr G n t ds i (n*t)) a1 b1 hn hn9;rw [<- a2,<- b2] at p2;refine ⟨P,p1,?_,?_⟩
    ·rw [ew_mul h1 ha (by omega) hb (by omega)];refine dl_of (tmO_len _ _ _ _ _ _) λj hj=>?_;rw [tmO_getD _ _ _ _ _ hj];exact p2 j hj
    ·rw [p3,wi_mul h1 ha (by omega) hb (by omega),<- a3,<- b3,nm_mull,nm_mulr]
def esn (G:List Gt) (n t:Nat) (ins ds:List Int) (i j:Nat):List Int:=
 if (gt G i).k=1 then [(ew G n t ins ds i).getD j 0]
 else if (gt G i).k=5 then tmR t (ew G n t ins ds (gt G i).a.toNat) (ew G n t ins ds (gt G i).b.toNat) (edr G n t ds i (n*t)) n j
 else []
def sng (G:List Gt) (n t:Nat) (ins ds:List Int) (i j:Nat):List Int:=(List.range i).flatMap λp=>esn G n t ins ds p j
theorem sng_succ (G:List Gt) (n t:Nat) (ins ds:List Int) (i j:Nat):sng G n t ins ds (i+1) j=sng G n t ins ds i j++esn G n t ins ds i j:=by simp [sng,List.range_succ]
def sno (G:List Gt) (O:List Int) (n t:Nat) (ins ds:List Int) (N q j:Nat):List Int:=sng G n t ins ds N j++(List.range q).flatMap λo=>ew G n t ins ds (O.getD o 0).toNat
theorem sno_succ (G:List Gt) (O:List Int) (n t:Nat) (ins ds:List Int) (N q j:Nat):sno G O n t ins ds N (q+1) j=sno G O n t ins ds N q j++ew G n t ins ds (O.getD q 0).toNat:=by simp [sno,List.range_succ]
def snl (G:List Gt) (O:List Int) (n t:Nat) (ins ds:List Int) (N m:Nat):List (List Int):=(List.range n).map λj=>sno G O n t ins ds N m j
theorem snl_len (G:List Gt) (O:List Int) (n t:Nat) (ins ds:List Int) (N m:Nat):(snl G O n t ins ds N m).length=n:=by simp [snl]
theorem snl_getD (G:List Gt) (O:List Int) (n t:Nat) (ins ds:List Int) (N m:Nat) {j:Nat} (h:j<n):(snl G O n t ins ds N m).getD j []=sno G O n t ins ds N m j:=by simp [snl,h]
theorem esn_bd (G:List Gt) (n t:Nat) (ins ds:List Int) (i:Nat) {j:Nat} (hj:j<n):∀z ∈ esn G n t ins ds i j,0<=z/\z<=2147483646:=by
 unfold esn;split
 ·intro z hz;obtain rfl:=List.mem_singleton.1 hz;refine ew_bd G n t ins ds i _ ?_;rw [List.getD_eq_getElem?_getD,List.getElem?_eq_getElem (by rw [ew_len];exact hj)];exact List.getElem_mem _
 ·split
  ·exact tmR_bd _ _ _ _ _ _
  ·intro z hz;simp at hz
theorem sno_bd (G:List Gt) (O:List Int) (n t:Nat) (ins ds:List Int) (N q:Nat) {j:Nat} (hj:j<n):∀z ∈ sno G O n t ins ds N q j,0<=z/\z<=2147483646:=by
 intro z hz;rcases List.mem_append.1 hz with hz | hz
 ·obtain ⟨i,_,hi⟩:=List.mem_flatMap.1 hz;exact esn_bd G n t ins ds i hj z hi
 ·obtain ⟨i,_,hi⟩:=List.mem_flatMap.1 hz;exact ew_bd _ _ _ _ _ _ z hi
def okc (G:List Gt) (N:Nat) (n t:Int):Prop:=(0<=t/\t<=4)/\(1<=n/\n<=9)/\2*t+1<=n/\∀x ∈ whl G N,x<=n
def Nde (G:List Gt) (O:List Int) (N m:Nat) (n t r:Int):Prop:=(r≠0/\Cke G O N m r)\/(Cke G O N m 0/\((¬ okc G N n t/\r=1)\/(okc G N n t/\r=0)))
theorem Nde.one {G O N m n t r s} (h:Nde G O N m n t r) (k:Nde G O N m n t s):r=s:=by
 rcases h with ⟨h1,h2⟩ | ⟨h1,⟨h2,rfl⟩ | ⟨h2,rfl⟩⟩ <;> rcases k with ⟨k1,k2⟩ | ⟨k1,⟨k2,rfl⟩ | ⟨k2,rfl⟩⟩
 all_goals first
  | rfl
  | exact h2.one k2
  | exact absurd (h2.one k1) h1
  | exact absurd (k2.one h1) k1
  | exact absurd k2 h2
  | exact absurd h2 k2
theorem Nde.ok {G O N m n t} (h:Nde G O N m n t 0):Cke G O N m 0/\okc G N n t:=by
 rcases h with ⟨h1,_⟩ | ⟨h1,⟨_,h2⟩ | ⟨h2,_⟩⟩
 ·exact absurd rfl h1
 ·omega
 ·exact ⟨h1,h2⟩
def Ere (G:List Gt) (O:List Int) (N m:Nat) (n t:Int) (q d:Nat) (r:Int):Prop:=
 (r≠0/\Nde G O N m n t r)\/(Nde G O N m n t 0/\((q≠ci G N/\r=5)\/(q=ci G N/\((d≠dwn G n.toNat t.toNat N/\r=1)\/(d=dwn G n.toNat t.toNat N/\r=0)))))
theorem Ere.one {G O N m n t q d r s} (h:Ere G O N m n t q d r) (k:Ere G O N m n t q d s):r=s:=by
 rcases h with ⟨h1,h2⟩ | ⟨h1,⟨h2,rfl⟩ | ⟨h2,⟨h3,rfl⟩ | ⟨h3,rfl⟩⟩⟩ <;> rcases k with ⟨k1,k2⟩ | ⟨k1,⟨k2,rfl⟩ | ⟨k2,⟨k3,rfl⟩ | ⟨k3,rfl⟩⟩⟩
 all_goals first
  | rfl
  | exact h2.one k2
  | exact absurd (h2.one k1) h1
  | exact absurd (k2.one h1) k1
  | exact absurd k2 h2
  | exact absurd h2 k2
  | exact absurd k3 h3
  | exact absurd h3 k3
def Ksh (n t:Nat) (L:List Int) (v:Int):Prop:=∃P:List Int,P.length<=t+1/\L=dl P n/\nm (ev P 0)=v
theorem Ksh.bd {n t L v} (h:Ksh n t L v):∀z ∈ L,0<=z/\z<=2147483646:=by
 obtain ⟨P,_,rfl,_⟩:=h;exact dl_bd _ _
theorem ksh_deal {n t:Nat} {x:Int} {ds:List Int} (h:ds.length<=t):Ksh n t (dl (x :: ds) n) (nm x):=⟨x :: ds,by rw [List.length_cons];omega,rfl,by rw [ev,Int.zero_mul,Int.add_zero]⟩
theorem ksh_zero (n t:Nat):Ksh n t (List.replicate n 0) 0:=by
 refine ⟨[],Nat.zero_le _,?_,rfl⟩
 exact dl_of (by simp) λi hi=>by simp [hi,ev];rfl
theorem Ksh.mix {n t L M v u} (a b c:Int) (h:Ksh n t L v) (g:Ksh n t M u):Ksh n t (mxl L M a b c n) (nm (a*v+b*u+c)):=by
 obtain ⟨A,a1,rfl,rfl⟩:=h;obtain ⟨B,b1,rfl,rfl⟩:=g;obtain ⟨P,p1,p2,p3⟩:=mxl_dealt (A:=A) (B:=B) (a:=a) (b:=b) (c:=c) (n:=n) a1 b1;refine ⟨P,p1,dl_of (mxl_len _ _ _ _ _ _) p2,?_⟩
 rw [p3];refine nm_add_congr (nm_add_congr ?_ ?_) rfl
 ·rw [nm_mulr]
 ·rw [nm_mulr]
def kdr (t:Nat) (sec:Bool) (ds:List Int) (i:Nat):List Int:=if sec then ds.getD (i*(t+1)) 0 :: (ds.drop (i*(t+1)+1)).take t else 0 :: (ds.drop (i*t)).take t
def ksm (n t:Nat) (sec:Bool) (ds:List Int):Nat->List Int
 | 0=>List.replicate n 0
 | i+1=>mxl (ksm n t sec ds i) (dl (kdr t sec ds i) n) 1 1 0 n
def ksv (t:Nat) (sec:Bool) (ds:List Int):Nat->Int
 | 0=>0
 | i+1=>nm (ksv t sec ds i+nm ((kdr t sec ds i).getD 0 0))
theorem kdr_ksh (n t:Nat) (sec:Bool) (ds:List Int) (i:Nat):Ksh n t (dl (kdr t sec ds i) n) (nm ((kdr t sec ds i).getD 0 0)):=by
 unfold kdr;cases sec with
 | true=>
  rw [if_pos rfl];exact ksh_deal (by rw [List.length_take];omega)
 | false=>
  rw [if_neg (by decide)];exact ksh_deal (by rw [List.length_take];omega)
theorem ksm_ksh (n t:Nat) (sec:Bool) (ds:List Int):∀i,Ksh n t (ksm n t sec ds i) (ksv t sec ds i)
 | 0=>ksh_zero n t
 | i+1=>by
  have h:=(ksm_ksh n t sec ds i).mix 1 1 0 (kdr_ksh n t sec ds i)
  rw [Int.one_mul,Int.one_mul,Int.add_zero] at h
  exact h
structure Kt where
 n:Nat
 t:Nat
 last:Nat
 cnt:Nat
 f:Int->Option (List Int)
def kset (f:Int->Option (List Int)) (h:Int) (v:Option (List Int)):Int->Option (List Int):=λi=>if i=h then v else f i
theorem kset_same (f:Int->Option (List Int)) (h:Int) (v:Option (List Int)):kset f h v h=v:=if_pos rfl
theorem kset_other (f:Int->Option (List Int)) {h i:Int} (v:Option (List Int)) (e:i≠h):kset f h v i=f i:=if_neg e
structure Kwf (s:Kt):Prop where
 t4:s.t<=4
 n9:s.n<=9
 nt:2*s.t+1<=s.n
 c8:s.cnt<=8
 key:∀h l,s.f h=some l->(1<=h/\h<=(s.last:Int))/\l.length=s.n/\∀x ∈ l,0<=x/\x<=2147483646
def k0 (n t:Nat):Kt:=⟨n,t,0,0,λ_=>none⟩
theorem k0_wf {n t:Nat} (ht:t<=4) (hn:n<=9) (h:2*t+1<=n):Kwf (k0 n t):=⟨ht,hn,h,Nat.zero_le _,λh l e=>by cases e⟩
def kput (s:Kt) (l:List Int):Kt:=⟨s.n,s.t,s.last+1,s.cnt+1,kset s.f ((s.last:Int)+1) (some l)⟩
def kadd (s:Kt) (l:List Int):Int×Int×Kt:=if 8<=s.cnt then (0,2,s) else ((s.last:Int)+1,0,kput s l)
def kgen (s:Kt) (ds:List Int):Int×Int×Kt:=if ds.length=s.n*(s.t+1) then kadd s (ksm s.n s.t true ds s.n) else (0,1,s)
def kmix (s:Kt) (g h:Int) (a b c:Int):Int×Int×Kt:=
 match s.f g,s.f h with
 | some l,some m=>kadd s (mxl l m a b c s.n)
 | _,_=>(0,4,s)
def kmul (s:Kt) (g h:Int) (ds:List Int):Int×Int×Kt:=
 match s.f g,s.f h with
 | some l,some m=>if ds.length=s.n*s.t then kadd s (tmO s.t l m ds s.n s.n) else (0,1,s)
 | _,_=>(0,4,s)
def ktrn (s:Kt) (h:Int) (l:List Int):Kt:=⟨s.n,s.t,s.last,s.cnt,kset s.f h (some l)⟩
def krfr (s:Kt) (h:Int) (ds:List Int):Int×Kt:=
 match s.f h with
 | some l=>if ds.length=s.n*s.t then (0,ktrn s h (mxl l (ksm s.n s.t false ds s.n) 1 1 0 s.n)) else (1,s)
 | none=>(4,s)
def kout (s:Kt) (h:Int):Kt:=⟨s.n,s.t,s.last,s.cnt-1,kset s.f h none⟩
def kdrp (s:Kt) (h:Int):Int×Kt:=
 match s.f h with
 | some _=>(0,kout s h)
 | none=>(4,s)
def Kop (s:Kt) (h x r:Int):Prop:=(s.f h=none/\x=0/\r=4)\/∃l,s.f h=some l/\Opn (shl l s.n) s.n s.t x r
theorem Kop.one {s h x r y q} (a:Kop s h x r) (b:Kop s h y q):x=y/\r=q:=by
 rcases a with ⟨a1,rfl,rfl⟩ | ⟨l,a1,a2⟩ <;> rcases b with ⟨b1,rfl,rfl⟩ | ⟨m,b1,b2⟩
 ·exact ⟨rfl,rfl⟩
 ·rw [a1] at b1;cases b1
 ·rw [a1] at b1;cases b1
 ·rw [a1] at b1;obtain rfl:=Option.some.inj b1;exact a2.one b2
theorem kput_wf {s} {l:List Int} (h:Kwf s) (hc:s.cnt<8) (hl:l.length=s.n) (hb:∀x ∈ l,0<=x/\x<=2147483646):Kwf (kput s l):=by
 refine ⟨h.t4,h.n9,h.nt,hc,λi m e=>?_⟩
 unfold kput kset at e;simp only at e;split at e
 ·rename_i hi;obtain rfl:=Option.some.inj e;refine ⟨⟨by omega,?_⟩,hl,hb⟩
  show i<=((s.last+1:Nat):Int);omega
 ·have:=h.key i m e;refine ⟨⟨this.1.1,?_⟩,this.2⟩
  show i<=((s.last+1:Nat):Int);omega
theorem ktrn_wf {s} {h:Int} {l m:List Int} (w:Kwf s) (hm:s.f h=some m) (hl:l.length=s.n) (hb:∀x ∈ l,0<=x/\x<=2147483646):Kwf (ktrn s h l):=by
 refine ⟨w.t4,w.n9,w.nt,w.c8,λi k e=>?_⟩
 unfold ktrn kset at e;simp only at e;split at e
 ·rename_i hi;obtain rfl:=Option.some.inj e;have:=w.key h m hm;rw [hi];exact ⟨this.1,hl,hb⟩
 ·exact w.key i k e
theorem kout_wf {s} {h:Int} (w:Kwf s):Kwf (kout s h):=by
 refine ⟨w.t4,w.n9,w.nt,?_,λi k e=>?_⟩
 ·have:=w.c8;show s.cnt-1<=8;omega
 ·unfold kout kset at e;simp only at e;split at e
  ·cases e
  ·exact w.key i k e
theorem ksm_bd (n t:Nat) (b:Bool) (ds:List Int) (i:Nat):∀x ∈ ksm n t b ds i,0<=x/\x<=2147483646:=(ksm_ksh n t b ds i).bd
theorem tmO_bd' (t:Nat) (a b ds:List Int) (n k:Nat):∀x ∈ tmO t a b ds n k,0<=x/\x<=2147483646:=λx hx=>by
 unfold tmO at hx
 obtain ⟨j,_,rfl⟩:=List.mem_map.1 hx
 exact nm_bd _
theorem kadd_cases (s:Kt) (l:List Int):(8<=s.cnt/\kadd s l=(0,2,s))\/(s.cnt<8/\kadd s l=((s.last:Int)+1,0,kput s l)):=by
 unfold kadd;split
 ·exact .inl ⟨by assumption,rfl⟩
 ·exact .inr ⟨by omega,rfl⟩
end
section
open Crm Go.RowKit
theorem cell_block {w w':World} {p:Addr} (e:w'.heap[p.block]? = w.heap[p.block]?):w'.cell? p=w.cell? p:=by unfold World.cell?;rw [e]
theorem add_block (x:Addr) (i:Nat):(x.add i).block=x.block:=by unfold Addr.add;split <;> rfl
theorem Rd.block {w} {w':World} {a n c xs} (h:Rd w a n c xs) (hk:∀x,a=some x->w'.heap[x.block]? = w.heap[x.block]?):Rd w' a n c xs:=by
 refine ⟨h.len,h.cap,h.max,h.bd,h.nil,λx hx i hi=>?_⟩
 have e:w'.cell? (x.add i)=w.cell? (x.add i):=cell_block (by rw [add_block];exact hk x hx);rw [e];exact h.cell x hx i hi
structure Tch (w w':World) (G:Nat->Prop):Prop where
 os:w'.os=w.os
 tape:w'.tape=w.tape
 output:w'.output=w.output
 size:w.heap.size<=w'.heap.size
 block:∀i,i<w.heap.size->¬ G i->w'.heap[i]? = w.heap[i]?
def Gnx (G:Nat->Prop) (w w':World):Nat->Prop:=λi=>G i\/(w.heap.size<=i/\i<w'.heap.size)
theorem Tch.refl (w:World) (G:Nat->Prop):Tch w w G:=⟨rfl,rfl,rfl,Nat.le_refl _,λ_ _ _=>rfl⟩
theorem Tch.of_below {w:World} {w'} {G:Nat->Prop} (h:Below w.heap.size w w'):Tch w w' G:=⟨h.os,h.tape,h.output,h.size,λi hi _=>h.block i hi⟩
theorem Tch.trans {w w1 w2 G} (h:Tch w w1 G) (k:Tch w1 w2 (Gnx G w w1)):Tch w w2 G:=
 ⟨k.os.trans h.os,k.tape.trans h.tape,k.output.trans h.output,Nat.le_trans h.size k.size,λi hi hn=>(k.block i (Nat.lt_of_lt_of_le hi h.size) (λg=>g.elim hn (λg=>by omega))).trans (h.block i hi hn)⟩
theorem Tch.below {B w0 w w' G} (h:Tch w w' G) (hb:Below B w0 w) (hG:∀i,G i->B<=i) (hB:B<=w.heap.size):Below B w0 w':=
 ⟨h.os.trans hb.os,h.tape.trans hb.tape,h.output.trans hb.output,Nat.le_trans hb.size h.size,λi hi=>(h.block i (by omega) (λg=>by have:=hG i g;omega)).trans (hb.block i hi)⟩
theorem Tch.rd {w w' G a n c xs} (h:Tch w w' G) (r:Rd w a n c xs) (hn:0<n) (hG:∀x,a=some x->¬ G x.block):Rd w' a n c xs:=by
 refine r.block λx hx=>h.block _ ?_ (hG x hx);obtain ⟨b,o,rfl,hb,_⟩:=r.at hn;obtain rfl:=Option.some.inj hx;exact hb
theorem Gnx.lt {G:Nat->Prop} {w w':World} (h:∀i,G i->i<w.heap.size) (hs:w.heap.size<=w'.heap.size):∀i,Gnx G w w' i->i<w'.heap.size:=λi g=>g.elim (λg=>Nat.lt_of_lt_of_le (h i g) hs) (λg=>g.2)
theorem Gnx.ge {G:Nat->Prop} {w w':World} {B:Nat} (h:∀i,G i->B<=i) (hs:B<=w.heap.size):∀i,Gnx G w w' i->B<=i:=λi g=>g.elim (h i) (λg=>Nat.le_trans hs g.1)
theorem Gnx.sub {G:Nat->Prop} {w w1 w2:World} (h:w.heap.size<=w1.heap.size) (hs:w1.heap.size<=w2.heap.size):∀i,Gnx (Gnx G w w1) w1 w2 i->Gnx G w w2 i:=λi g=>
 g.elim (λg=>g.elim .inl (λg=>.inr ⟨g.1,by omega⟩)) (λg=>.inr ⟨by omega,g.2⟩)
structure Sto (TY:TypeId) (w:World) (p b:Nat) (V:Int->Option Value) (s:Kt):Prop where
 row:w.heap[p]? = some (.cells #[.int .i64 s.n,.int .i64 s.t,.int .i64 s.last,.map (some b)] TY (0,0))
 map:MapI w b s.cnt V
 val:∀h,(s.f h=none/\V h=none)\/∃l a c,s.f h=some l/\V h=some (.slice a s.n c)/\Rd w a s.n c l
 wf:Kwf s
def Ftp (p b:Nat) (V:Int->Option Value):Nat->Prop:=λi=>i=p\/i=b\/∃h a m c,V h=some (.slice (some a) m c)/\a.block=i
theorem Sto.keep {TY w} {w':World} {p b V s} (h:Sto TY w p b V s) (hk:∀i,Ftp p b V i->w'.heap[i]? = w.heap[i]?):Sto TY w' p b V s:=by
 refine ⟨by rw [hk p (.inl rfl)];exact h.row,h.map.block (hk b (.inr (.inl rfl))),λi=>?_,h.wf⟩
 rcases h.val i with e | ⟨l,a,c,e1,e2,e3⟩
 ·exact .inl e
 ·exact .inr ⟨l,a,c,e1,e2,e3.block λx hx=>hk _ (.inr (.inr ⟨i,x,_,_,by rw [<- hx];exact e2,rfl⟩))⟩
def Stx (TY:TypeId) (w:World) (p:Nat) (G:Nat->Prop) (s:Kt):Prop:=(∃b V,Sto TY w p b V s/\∀i,Ftp p b V i->G i)/\∀i,G i->i<w.heap.size
theorem Stx.keep {TY w} {w':World} {p G s} (h:Stx TY w p G s) (hk:∀i,G i->w'.heap[i]? = w.heap[i]?):Stx TY w' p G s:=by
 obtain ⟨⟨b,V,h1,h2⟩,h3⟩:=h;refine ⟨⟨b,V,h1.keep λi hi=>hk i (h2 i hi),h2⟩,λi hi=>?_⟩
 have e:=hk i hi;rw [Array.getElem?_eq_getElem (h3 i hi)] at e;exact (Array.getElem?_eq_some_iff.1 e).1
theorem Stx.mono {TY w p G} {G':Nat->Prop} {s} (h:Stx TY w p G s) (hG:∀i,G i->G' i) (hl:∀i,G' i->i<w.heap.size):Stx TY w p G' s:=by
 obtain ⟨⟨b,V,h1,h2⟩,h3⟩:=h;exact ⟨⟨b,V,h1,λi hi=>hG i (h2 i hi)⟩,hl⟩
theorem Stx.below {TY w w' p G s} (h:Stx TY w p G s) (hb:Below w.heap.size w w'):Stx TY w' p (Gnx G w w') s:=
 (h.keep λi hi=>hb.block i (h.2 i hi)).mono (λ_=>.inl) (Gnx.lt h.2 hb.size)
theorem Stx.same {TY w w' p G s} (h:Stx TY w p G s) (hb:Below w.heap.size w w'):Stx TY w' p G s:=h.keep λi hi=>hb.block i (h.2 i hi)
theorem Stx.wf {TY w p G s} (h:Stx TY w p G s):Kwf s:=let ⟨⟨_,_,h1,_⟩,_⟩:=h;h1.wf
def Kde (TY:TypeId) (p:Nat) (G:Nat->Prop) (r:Int×Int×Kt) (w:World) (e:Ending) (w':World):Prop:=
 e = .returned (.tuple #[.int .i64 r.1,.int .i64 r.2.1])/\Stx TY w' p (Gnx G w w') r.2.2/\Tch w w' G
def Kte (TY:TypeId) (p:Nat) (G:Nat->Prop) (r:Int×Kt) (w:World) (e:Ending) (w':World):Prop:=
 e = .returned (.int .i64 r.1)/\Stx TY w' p (Gnx G w w') r.2/\Tch w w' G
theorem Kde.behind {TY p} {G:Nat->Prop} {r} {w:World} {w1 w' e} (hb:Below w.heap.size w w1) (h:Kde TY p (Gnx G w w1) r w1 e w') (hG:∀i,G i->i<w.heap.size):Kde TY p G r w e w':=by
 obtain ⟨h1,h2,h3⟩:=h;refine ⟨h1,h2.mono (Gnx.sub hb.size h3.size) (Gnx.lt hG (Nat.le_trans hb.size h3.size)),(Tch.of_below hb).trans h3⟩
theorem Kte.behind {TY p} {G:Nat->Prop} {r} {w:World} {w1 w' e} (hb:Below w.heap.size w w1) (h:Kte TY p (Gnx G w w1) r w1 e w') (hG:∀i,G i->i<w.heap.size):Kte TY p G r w e w':=by
 obtain ⟨h1,h2,h3⟩:=h;refine ⟨h1,h2.mono (Gnx.sub hb.size h3.size) (Gnx.lt hG (Nat.le_trans hb.size h3.size)),(Tch.of_below hb).trans h3⟩
theorem Kde.after {TY p G r} {w:World} {w1 w' e} (hb:Below w.heap.size w w1) (h:Kde TY p G r w1 e w') (hG:∀i,G i->i<w.heap.size):Kde TY p G r w e w':=by
 obtain ⟨h1,h2,h3⟩:=h;have hs:=hb.size;refine ⟨h1,h2.mono (λi g=>g.elim .inl (λg=>.inr ⟨by omega,g.2⟩)) (Gnx.lt hG (Nat.le_trans hs h3.size)),⟨h3.os.trans hb.os,h3.tape.trans hb.tape,h3.output.trans hb.output,Nat.le_trans hs h3.size,λi hi hn=>(h3.block i (by omega) hn).trans (hb.block i hi)⟩⟩
theorem Kte.after {TY p G r} {w:World} {w1 w' e} (hb:Below w.heap.size w w1) (h:Kte TY p G r w1 e w') (hG:∀i,G i->i<w.heap.size):Kte TY p G r w e w':=by
 obtain ⟨h1,h2,h3⟩:=h;have hs:=hb.size;refine ⟨h1,h2.mono (λi g=>g.elim .inl (λg=>.inr ⟨by omega,g.2⟩)) (Gnx.lt hG (Nat.le_trans hs h3.size)),⟨h3.os.trans hb.os,h3.tape.trans hb.tape,h3.output.trans hb.output,Nat.le_trans hs h3.size,λi hi hn=>(h3.block i (by omega) hn).trans (hb.block i hi)⟩⟩
theorem gnx_new {G:Nat->Prop} {w:World} {w1 a n c xs} (r:Rd w1 a n c xs) (hn:0<n) (hx:∀x,a=some x->w.heap.size<=x.block):∀x,a=some x->Gnx G w w1 x.block:=λx e=>by
 obtain ⟨b,o,e2,hb,_⟩:=r.at hn
 rw [e] at e2
 obtain rfl:=Option.some.inj e2
 exact .inr ⟨hx _ e,hb⟩
theorem rdI_of1 (w:World) {x:Int} (h: -9223372036854775808<=x/\x<=9223372036854775807):RdI (w.alloc (.cells #[.int .i64 x] 3)) (some ⟨w.heap.size,0,none⟩) 1 1 [x]:=by
 refine ⟨rfl,Nat.le_refl _,by unfold maxLen;omega,λy hy=>by rw [List.mem_singleton.1 hy];exact h,by simp,λy hy i hi=>?_⟩
 obtain rfl:=Option.some.inj hy;obtain rfl:i=0:=by omega
 rw [Addr.add_lit,cell_of_row _ w.heap.size _ _ _ (0,0) (heap_alloc_new w _)];rfl
theorem rdI_of2 (w:World) {x y:Int} (h: -9223372036854775808<=x/\x<=9223372036854775807) (g: -9223372036854775808<=y/\y<=9223372036854775807):RdI (w.alloc (.cells #[.int .i64 x,.int .i64 y] 3)) (some ⟨w.heap.size,0,none⟩) 2 2 [x,y]:=by
 refine ⟨rfl,Nat.le_refl _,by unfold maxLen;omega,λz hz=>by simp at hz;rcases hz with rfl | rfl <;> assumption,by simp,λz hz i hi=>?_⟩
 obtain rfl:=Option.some.inj hz;have aa:i=0\/i=1:=by omega
 rcases aa with rfl | rfl
 ·rw [Addr.add_lit,cell_of_row _ w.heap.size _ _ _ (0,0) (heap_alloc_new w _)];rfl
 ·rw [Addr.add_lit,cell_of_row _ w.heap.size _ _ _ (0,0) (heap_alloc_new w _)];rfl
theorem Sto.four {TY w p b V s} (h:Sto TY w p b V s):w.cell? ⟨p,0,none⟩=some (.int .i64 s.n)/\w.cell? ⟨p,1,none⟩=some (.int .i64 s.t)/\w.cell? ⟨p,2,none⟩=some (.int .i64 s.last)/\w.cell? ⟨p,3,none⟩=some (.map (some b)):=by
 refine ⟨?_,?_,?_,?_⟩ <;> (rw [cell_of_row w p _ _ _ (0,0) h.row];rfl)
theorem Sto.lt {TY w p b V s} (h:Sto TY w p b V s):p<w.heap.size:=(Array.getElem?_eq_some_iff.1 h.row).1
theorem Sto.ne {TY w p b V s} (h:Sto TY w p b V s):b≠p:=λe=>by
 obtain ⟨es,ck,hm⟩:=h.map.map
 rw [e,h.row] at hm
 cases hm
theorem Sto.isKey {TY w p b V s} (h:Sto TY w p b V s) (x:Int):(V x).isSome=(s.f x).isSome:=by
 rcases h.val x with e | ⟨l,a,c,e1,e2,_⟩
 ·rw [e.1,e.2];rfl
 ·rw [e1,e2];rfl
theorem Sto.apart {TY w p b V s} (h:Sto TY w p b V s) {a:Addr} {n c xs} (r:Rd w (some a) n c xs) (hn:0<n):a.block≠p/\a.block≠b:=by
 obtain ⟨g,o,e,_,hc⟩:=r.at hn;obtain rfl:=Option.some.inj e;have h0:=hc 0 hn;constructor
 ·intro e;simp only at e;subst e;rw [cell_of_row w g _ _ _ (0,0) h.row] at h0;have aa:o+0=0\/o+0=1\/o+0=2\/o+0=3\/4<=o+0:=by omega
  rcases aa with e | e | e | e | e
  ·rw [e] at h0;simp at h0
  ·rw [e] at h0;simp at h0
  ·rw [e] at h0;simp at h0
  ·rw [e] at h0;simp at h0
  ·rw [Array.getElem?_eq_none (by simpa using e)] at h0;cases h0
 ·intro e;simp only at e;subst e;obtain ⟨es,ck,hm⟩:=h.map.map;unfold World.cell? at h0;simp [hm] at h0
theorem Sto.put {TY w w' p b V s a c} {l:List Int} (h:Sto TY w p b V s) (hc:s.cnt<8) (hl:∀x ∈ l,0<=x/\x<=2147483646) (r:Rd w a s.n c l) (hm:MapI w' b (if (V ((s.last:Int)+1)).isSome then s.cnt else s.cnt+1) (mset V ((s.last:Int)+1) (some (.slice a s.n c)))) (hr:w'.heap[p]? = some (.cells #[.int .i64 s.n,.int .i64 s.t,.int .i64 ((s.last:Int)+1),.map (some b)] TY (0,0))) (hk:∀i,i<w.heap.size->i≠p->i≠b->w'.heap[i]? = w.heap[i]?):
  Sto TY w' p b (mset V ((s.last:Int)+1) (some (.slice a s.n c))) (kput s l):=by
 have hn:0<s.n:=by have:=h.wf.nt;omega
 have aa:∀{a:Option Addr} {c:Nat} {l:List Int},Rd w a s.n c l->Rd w' a s.n c l:=λ{a c l} r=>r.block λx hx=>by
  subst hx;have h1:=h.apart r hn;obtain ⟨g,o,e,hg,_⟩:=r.at hn;obtain rfl:=Option.some.inj e;exact hk _ hg h1.1 h1.2
 have hv:V ((s.last:Int)+1)=none:=by
  rcases h.val ((s.last:Int)+1) with e | ⟨m,_,_,e,_⟩
  ·exact e.2
  ·have:=(h.wf.key _ m e).1;omega
 refine ⟨?_,?_,λi=>?_,kput_wf h.wf hc r.len hl⟩
 ·rw [hr];unfold kput;simp
 ·rw [hv] at hm;exact hm
 ·unfold mset;show (kset s.f ((s.last:Int)+1) (some l) i=none/\_)\/∃l_1 a_1 c_1,kset s.f ((s.last:Int)+1) (some l) i=some l_1/\_/\Rd w' a_1 s.n c_1 l_1;by_cases e:i=(s.last:Int)+1
  ·subst e;rw [kset_same,if_pos rfl];exact .inr ⟨l,a,c,rfl,rfl,aa r⟩
  ·rw [kset_other _ _ e,if_neg e];rcases h.val i with e | ⟨l,a,c,e1,e2,e3⟩
   ·exact .inl e
   ·exact .inr ⟨l,a,c,e1,e2,aa e3⟩
theorem Sto.turn {TY w w' p b V s a c} {l m:List Int} {k:Int} (h:Sto TY w p b V s) (hm0:s.f k=some m) (hl:∀x ∈ l,0<=x/\x<=2147483646) (r:Rd w a s.n c l) (hm:MapI w' b (if (V k).isSome then s.cnt else s.cnt+1) (mset V k (some (.slice a s.n c)))) (hk:∀i,i<w.heap.size->i≠b->w'.heap[i]? = w.heap[i]?):
  Sto TY w' p b (mset V k (some (.slice a s.n c))) (ktrn s k l):=by
 have hn:0<s.n:=by have:=h.wf.nt;omega
 have aa:∀{a:Option Addr} {c:Nat} {l:List Int},Rd w a s.n c l->Rd w' a s.n c l:=λ{a c l} r=>r.block λx hx=>by
  subst hx;have h1:=h.apart r hn;obtain ⟨g,o,e,hg,_⟩:=r.at hn;obtain rfl:=Option.some.inj e;exact hk _ hg h1.2
 have hv:(V k).isSome=true:=by
  rcases h.val k with e | ⟨m,_,_,_,e,_⟩
  ·rw [e.1] at hm0;cases hm0
  ·rw [e];rfl
 refine ⟨by rw [hk p h.lt h.ne.symm];exact h.row,?_,λi=>?_,ktrn_wf h.wf hm0 r.len hl⟩
 ·rw [hv] at hm;exact hm
 ·unfold mset;show (kset s.f k (some l) i=none/\_)\/∃l_1 a_1 c_1,kset s.f k (some l) i=some l_1/\_/\Rd w' a_1 s.n c_1 l_1;by_cases e:i=k
  ·subst e;rw [kset_same,if_pos rfl];exact .inr ⟨l,a,c,rfl,rfl,aa r⟩
  ·rw [kset_other _ _ e,if_neg e];rcases h.val i with e | ⟨l,a,c,e1,e2,e3⟩
   ·exact .inl e
   ·exact .inr ⟨l,a,c,e1,e2,aa e3⟩
theorem Sto.out {TY w w' p b V s} {m:List Int} {k:Int} (h:Sto TY w p b V s) (hm0:s.f k=some m) (hm:MapI w' b (if (V k).isSome then s.cnt-1 else s.cnt) (mset V k none)) (hk:∀i,i<w.heap.size->i≠b->w'.heap[i]? = w.heap[i]?):Sto TY w' p b (mset V k none) (kout s k):=by
 have hn:0<s.n:=by have:=h.wf.nt;omega
 have aa:∀{a:Option Addr} {c:Nat} {l:List Int},Rd w a s.n c l->Rd w' a s.n c l:=λ{a c l} r=>r.block λx hx=>by
  subst hx;have h1:=h.apart r hn;obtain ⟨g,o,e,hg,_⟩:=r.at hn;obtain rfl:=Option.some.inj e;exact hk _ hg h1.2
 have hv:(V k).isSome=true:=by
  rcases h.val k with e | ⟨m,_,_,_,e,_⟩
  ·rw [e.1] at hm0;cases hm0
  ·rw [e];rfl
 refine ⟨by rw [hk p h.lt h.ne.symm];exact h.row,?_,λi=>?_,kout_wf h.wf⟩
 ·rw [hv] at hm;exact hm
 ·unfold mset;show (kset s.f k none i=none/\_)\/∃l_1 a_1 c_1,kset s.f k none i=some l_1/\_/\Rd w' a_1 s.n c_1 l_1;by_cases e:i=k
  ·subst e;rw [kset_same,if_pos rfl];exact .inl ⟨rfl,rfl⟩
  ·rw [kset_other _ _ e,if_neg e];rcases h.val i with e | ⟨l,a,c,e1,e2,e3⟩
   ·exact .inl e
   ·exact .inr ⟨l,a,c,e1,e2,aa e3⟩
theorem zeroL (w:World):(zeroValue 52).run Tryz.prog w = .ok (.slice none 0 0) w:=by kernel_rfl
def hsl (s:Kt) (hs:List Int) (k:Nat):Bool:=(hs.take k).all λh=>(s.f h).isSome
theorem hsl_step (s:Kt) {hs:List Int} {k:Nat} (h:k<hs.length):hsl s hs (k+1)=(hsl s hs k && (s.f (hs.getD k 0)).isSome):=by
 unfold hsl;rw [List.take_add_one,List.all_append,List.getElem?_eq_getElem h];simp [List.getD_eq_getElem?_getD,List.getElem?_eq_getElem h]
theorem rHas (p G s a n c hs w) (h:Stx 124 w p G s) (r:RdI w a n c hs):
  Calls Tryz.prog 124 #[.pointer (some ⟨p,0,none⟩),.slice a n c] w λe w'=>e = .returned (.bool (hsl s hs n))/\Below w.heap.size w w':=by
 have ah:=r.cap;have ab:=r.max;have ai:=r.len;unfold maxLen at ab;go_enter Tryz.func124,Tryz.ntmps124;go_wp2;go_loopw [5,6] (λok i wr=>∃k:Nat,k<=n/\i = .int .i64 k/\ok = .bool (hsl s hs k)/\Below w.heap.size w wr) (λ_ i _=>n-(intOf i).toNat)
 case atStart=>exact ⟨0,Nat.zero_le _,rfl,rfl,Below.refl _ _⟩
 case round=>
  obtain ⟨k,hk,rfl,rfl,aa⟩:=hrel;by_cases hlt:k<n
  ·obtain ⟨bb,o,x,rfl,aj,HX,ad,ae,ak⟩:=(r.below aa).one hlt;obtain ⟨⟨b,V,hS,_⟩,_⟩:=h.same aa;obtain ⟨c0,c1,c2,c3⟩:=hS.four;have al:=hS.lt;obtain ⟨v,bv,HS,HL⟩:∃v bv,Hid ((s.f x).isSome=bv)/\∀q,(Instr.lookup 122 (.map (some b)) (.int .i64 x) true).run Tryz.prog (wr.drewN q) = .ok (.tuple #[v,.bool bv]) (wr.drewN q):=by
    refine ⟨(V x).getD (.slice none 0 0),(s.f x).isSome,rfl,λq=>?_⟩
    rw [<- hS.isKey x];exact ((show MapI (wr.drewN q) b s.cnt V from hS.map).look Tryz.underlying122 (zeroL _) ⟨ad,ae⟩).1
   have HN:Hid (hsl s hs (k+1)=(hsl s hs k && bv)):=by unfold Hid;rw [hsl_step s (by omega),HX.out,HS.out]
   have am:(k:Int)<(n:Int):=by omega
   clear hS;go_wp2;go_quiet (fail);obtain ⟨af,ag⟩:=nmd (hsl s hs k);rw [ag.out] at HN ⊢;cases af with
   | true=>
    go_wp2;go_roundw
    case rel=>exact ⟨k+1,by omega,by go_num,by rw [HN.out];simp,drewN_below aa _⟩
    case measure=>simp [intOf];omega
   | false=>
    go_wp2;go_roundw
    case rel=>exact ⟨k+1,by omega,by go_num,by rw [HN.out];simp,drewN_below aa _⟩
    case measure=>simp [intOf];omega
  ·obtain rfl:k=n:=by omega
   go_wp2;go_ret;exact ⟨rfl,aa⟩
theorem rKeep (p G s a c l w) (h:Stx 124 w p G s) (r:Rd w a s.n c l) (hl:∀x ∈ l,0<=x/\x<=2147483646) (hG:∀x,a=some x->G x.block) (hlast:s.last<=1000000):
  Calls Tryz.prog 122 #[.pointer (some ⟨p,0,none⟩),.slice a s.n c] w (Kde 124 p G (kadd s l) w):=by
 have H0:=hid h;obtain ⟨⟨b,V,hS,hF⟩,af⟩:=h;obtain ⟨c0,c1,c2,c3⟩:=hS.four;have ao:=hS.lt;have hM:=hS.map;by_cases hc:8<=s.cnt
 ·have HE:Hid (kadd s l=(0,2,s)):=if_pos hc;have aj:(8:Int)<=(s.cnt:Int):=by omega
  go_enter Tryz.func122,Tryz.ntmps122;go_wp2_with (at_len;refine wpList_lenK _ rfl _ 122 rfl 52 Tryz.underlying122 b s.cnt V rfl hM ?_);go_ret2;rw [HE.out];exact ⟨rfl,H0.out.below (Below.refl _ _),Tch.refl _ _⟩
 ·have HE:Hid (kadd s l=((s.last:Int)+1,0,kput s l)):=if_neg hc;have aj:¬ ((8:Int)<=(s.cnt:Int)):=by omega
  obtain ⟨L1,ak⟩:=nmd ((s.last:Int)+1);have ad:(s.last:Int)+1=L1:=ak.out;have ap:1<=L1/\L1<=1000001:=by omega
  have aq:=frozen_of_row w p 2 _ _ hS.row;have aa:=heap_setCell_same w p 2 _ _ (.int .i64 L1) hS.row;have al:MapI (w.setCell ⟨p,2,none⟩ (.int .i64 L1)) b s.cnt V:=hM.block (heap_setCell_other w ⟨p,2,none⟩ b _ hS.ne);have d2:(w.setCell ⟨p,2,none⟩ (.int .i64 L1)).cell? ⟨p,2,none⟩=some (.int .i64 L1):=by rw [cell_of_row _ p 2 _ _ (0,0) aa];simp
  have d3:(w.setCell ⟨p,2,none⟩ (.int .i64 L1)).cell? ⟨p,3,none⟩=some (.map (some b)):=by rw [cell_of_row _ p 3 _ _ (0,0) aa];simp
  have ai:p<(w.setCell ⟨p,2,none⟩ (.int .i64 L1)).heap.size:=(Array.getElem?_eq_some_iff.1 aa).1;obtain ⟨w',am,ag,ah⟩:=(show MapI (w.setCell ⟨p,2,none⟩ (.int .i64 L1)).drew b s.cnt V from al).store (t:=122) Tryz.underlying122 (by have:=hS.wf.c8;omega) (k:=L1) ⟨by omega,by omega⟩ (.slice a s.n c);have ab:=ah.grown;have hk:∀i,i<w.heap.size->i≠p->i≠b->w'.heap[i]? = w.heap[i]?:=λi hi h1 h2=>by
   rw [ab.block i (by simpa using hi) (by simpa using h2)];exact heap_setCell_other w ⟨p,2,none⟩ i _ h1
  have ae:w'.heap[p]? = some (.cells #[.int .i64 s.n,.int .i64 s.t,.int .i64 L1,.map (some b)] 124 (0,0)):=by
   rw [ab.block p ai (by simpa using hS.ne.symm)];refine aa.trans ?_;simp
  have HP:Hid (Sto 124 w' p b (mset V ((s.last:Int)+1) (some (.slice a s.n c))) (kput s l)):=by
   refine hS.put (by omega) hl r (by rw [ad];exact ag) (by rw [ad];exact ae) hk
  have ar:w.heap.size<=w'.heap.size:=Nat.le_trans (by simp) ab.size;have HX:Hid (Stx 124 w' p (Gnx G w w') (kput s l)):=by
   refine ⟨⟨b,_,HP.out,λi hi=>.inl ?_⟩,Gnx.lt af (by omega)⟩
   rcases hi with rfl | rfl | ⟨hh,a',m,c',e,rfl⟩
   ·exact hF _ (.inl rfl)
   ·exact hF _ (.inr (.inl rfl))
   ·unfold mset at e;split at e
    ·simp only [Option.some.injEq,Value.slice.injEq] at e;exact hG a' e.1
    ·exact hF _ (.inr (.inr ⟨hh,a',m,c',e,rfl⟩))
  have HT:Hid (Tch w w' G):=⟨ab.os,ab.tape,ab.output,by omega,λi hi hn=>hk i hi (λe=>hn (hF _ (.inl e))) (λe=>hn (hF _ (.inr (.inl e))))⟩;have au:w'.cell? ⟨p,2,none⟩=some (.int .i64 L1):=by rw [cell_of_row _ p 2 _ _ (0,0) ae];rfl
  have an:p<w'.heap.size:=by omega
  clear ab ah hk ae ag aa hF af hG hc;go_enter Tryz.func122,Tryz.ntmps122;go_wp2_with (at_len;refine wpList_lenK _ rfl _ 122 rfl 52 Tryz.underlying122 b s.cnt V rfl hM ?_);go_region
  all_goals
   go_wp2;go_ret2;rw [HE.out,ad];exact ⟨rfl,HX.out,HT.out⟩
theorem rMixed (a n c xs b d ys) (p q r:Int) (w) (h:Rd w a n c xs) (g:Rd w b n d ys) (hn:n<=1000) (p0:0<=p) (p1:p<=18446744073709551615) (q0:0<=q) (q1:q<=18446744073709551615) (r0:0<=r) (r1:r<=18446744073709551615):
  Calls Tryz.prog 125 #[.slice a n c,.slice b n d,.int .u64 p,.int .u64 q,.int .u64 r] w λe w'=>∃v,e = .returned v/\w'.ownsRow w.heap.size 70 1 v n ((mxl xs ys p q r n).map (Value.int .u64))/\Below w.heap.size w w':=by
 go_enter Tryz.func125,Tryz.ntmps125;go_wp2;go_loopw [11,12] (λv i wr=>∃k:Nat,k<=n/\i = .int .i64 k/\wr.ownsRow w.heap.size 70 1 v k ((mxl xs ys p q r k).map (Value.int .u64))/\Below w.heap.size w wr) (λ_ i _=>n-(intOf i).toNat)
 case atStart=>exact ⟨0,Nat.zero_le _,rfl,World.ownsRow_nil _ _ _ _,Below.refl _ _⟩
 case round=>
  obtain ⟨k,hk,rfl,ab,aa⟩:=hrel;have aj:=aa.size;by_cases hlt:k<n
  ·obtain ⟨b1,o1,x,rfl,ak,HX,al,am,an⟩:=(h.below aa).one hlt;obtain ⟨b2,o2,y,rfl,ao,HY,ap,aq,ar⟩:=(g.below aa).one hlt;have m1:=nm_bd (p*x);have m2:=nm_bd (q*y);have m3:=nm_bd (nm (p*x)+nm (q*y));have HV:Hid (mxl xs ys p q r k ++ [nm (nm (nm (p*x)+nm (q*y))+r)]=mxl xs ys p q r (k+1)):=by
    unfold Hid;rw [mxl_one,<- HX.out,<- HY.out];exact mxl_snoc xs ys p q r k
   have au:(0:Int)<=(k:Int):=by omega
   have ai:(k:Int)<(n:Int):=by omega
   have ad:wr.drew.ownsRow w.heap.size 70 1 u11 k ((mxl xs ys p q r k).map (Value.int .u64)):=ab;have ae:=aa.drew;go_wp2;go_region_law (first | (refine step_app1 Tryz.underlying52 info70 wr.drew rfl _ _ rfl w.heap.size _ _ _ rfl ad (nm (nm (nm (p*x)+nm (q*y))+r)) rfl rfl (by omega) (by exact aj) ?_;intro v' w3 af ag;rw [HV.out] at af;have ah:=ae.trans ag) | (go_simp;go_at_call 160;refine (rMul _ _ _ (by omega) (by omega) (by omega) (by omega)).mono ?_;rintro en w' ⟨rfl,rfl⟩) | (go_simp;go_at_call 159;refine (rAdd _ _ _ (by omega) (by omega) (by omega) (by omega)).mono ?_;rintro en w' ⟨rfl,rfl⟩))
   all_goals
    clear ab aa ad ae ag;go_wp2;go_roundw
    case rel=>exact ⟨k+1,by omega,by go_num,af,ah⟩
    case measure=>simp [intOf];omega
  ·have ai:k=n:=by omega
   subst ai;go_wp2;go_ret;exact ⟨_,rfl,ab,aa⟩
theorem step_appS {P:Program} {T E:TypeId} (hT:P.underlying T=some (.slice E)) (info:(P.info? E).map (λi=>(i.zero,i.size,i.bytes))=some (some (.agg #[.int .i64 0,.int .u64 0]),2,16)) (w:World) {w1:World} {ops:Array Oper} {o:Oper} {a:Act} {K:Act->World->Prop} {Q:Exit->Act->World->Prop} {F:Prop} (hgd:o.guard=none) (s x:Operand) (ho:o.op = .call { callee:=.builtin .append,args:=#[s,x],argTypes:=#[T,T] }) (base:Nat) (v:Value) (n:Nat) (l:List (Int×Int)) (hs:a.eval s=v) (hown:w.ownsRow base E 2 v n (shc l)) (p q:Int) (hx:a.eval x = .slice (some ⟨w.heap.size,0,none⟩) 1 1) (hw1:w1=w.alloc (.cells #[.int .i64 p,.int .u64 q] E)) (hn:n<=1000000) (hbase:base<=w.heap.size) (h:∀v' w',w'.ownsRow base E 2 v' (n+1) (shc (l ++ [(p,q)]))->Below base w w'->K (a.put o.dst v') w'):
  if Region.wanted o (yielded ops a.tmps)=true then Oper.wp P o a w1 K Q else F:=by
 subst hw1;obtain ⟨i0,hi,ad,ae,af⟩:=info_parts info;refine step_append_lies _ hgd s x T ho base E i0 (.agg #[.int .i64 0,.int .u64 0]) 2 16 hT hi ad ae af rfl (by decide) v n _ hs (hown.alloc _) ⟨w.heap.size,0,none⟩ 1 1 [.int .i64 p,.int .u64 q] hx rfl ?_ ?_ (by decide) (by unfold maxLen;omega) (by omega) (by simp;omega) _ rfl ?_
 ·intro j u hj;match j,hj with
  | 0,hj=>simp at hj;subst hj;rw [Addr.add_lit];exact cell_alloc0 _ _ _ _
  | 1,hj=>simp at hj;subst hj;rw [Addr.add_lit];exact cell_alloc1 _ _ _ _
 ·intro u hu;simp at hu;rcases hu with rfl | rfl <;> rfl
 ·intro g ag w' aa ab _ _;refine h _ w' (by rw [shc_snoc];exact aa) ?_;exact ((Below.refl _ _).alloc hbase _).grown ab (by simp;omega) (λk hk=>(hown.lt k hk).1)
theorem Rd.tail {w} {b o n c:Nat} {xs} {a:Option Addr} (h:Rd w (some ⟨b,o,none⟩) (n+1) (c+1) xs) (ha:(0<n->a=some ⟨b,o+1,none⟩)/\a≠none):Rd w a n c (xs.drop 1):=by
 have h1:=h.cap;have h2:=h.max;refine ⟨by have:=h.len;simp;omega,by omega,by omega,λx hx=>h.bd x (List.mem_of_mem_drop hx),λe=>absurd e ha.2,λx hx i hi=>?_⟩
 rw [ha.1 (by omega)] at hx;obtain rfl:=Option.some.inj hx;have:=h.cell _ rfl (i+1) (by omega);rw [Addr.add_lit] at this ⊢;rw [show o+1+i=o+(i+1) by omega,this];congr 2;simp
theorem Blk.own {w g} {n B:Nat} {L} (h:Blk w g L) (hl:L.length=n) (hB:B<=g) (hn:n<=1000):w.ownsRow B 70 1 (.slice (some ⟨g,0,none⟩) n n) n (L.map (Value.int .u64)):=
 ⟨by simp [hl],.inr ⟨g,n,_,rfl,hB,h,Nat.le_refl _,by unfold maxLen;omega,by simp [hl],by rw [List.take_of_length_le (by simp [hl])]⟩⟩
def kat (t:Nat) (sec:Bool) (i:Nat):Nat:=if sec then i*(t+1) else i*t
theorem kat_le {t i n:Nat} {sec:Bool} (h:i<=n):kat t sec i<=kat t sec n:=by
 unfold kat;split <;> exact Nat.mul_le_mul_right _ h
theorem kat_succ (t:Nat) (sec:Bool) (i:Nat):kat t sec (i+1)=kat t sec i+(if sec then 1 else 0)+t:=by
 unfold kat;cases sec <;> simp [Nat.add_mul] <;> omega
theorem kat_max {t n:Nat} (sec:Bool) (ht:t<=4) (hn:n<=9):kat t sec n<=45:=by
 unfold kat;split
 ·exact Nat.mul_le_mul hn (show t+1<=5 by omega)
 ·exact Nat.le_trans (Nat.mul_le_mul hn ht) (by omega)
theorem kdr_true (t:Nat) (ds:List Int) (i:Nat):kdr t true ds i=ds.getD (kat t true i) 0 :: (ds.drop (kat t true i+1)).take t:=rfl
theorem kdr_fals (t:Nat) (ds:List Int) (i:Nat):kdr t false ds i=0 :: (ds.drop (kat t false i)).take t:=rfl
theorem infoU1:(Tryz.prog.info? 70).map (·.size)=some 1:=by kernel_rfl
theorem rSums (p G s a m c ds) (sec:Bool) (w) (h:Stx 124 w p G s) (r:Rd w a m c ds) (hm:m=kat s.t sec s.n):
  Calls Tryz.prog 123 #[.pointer (some ⟨p,0,none⟩),.slice a m c,.bool sec] w λe w'=>∃v,e = .returned v/\w'.ownsRow w.heap.size 70 1 v s.n ((ksm s.n s.t sec ds s.n).map (Value.int .u64))/\Below w.heap.size w w':=by
 obtain ⟨i0,hi,aI,aJ,aK⟩:=info_parts info70;have hw:=h.wf;have aq:=hw.t4;have ar:=hw.n9;have az:=hw.nt;have aO:=r.cap;have aH:=r.max;unfold maxLen at aH;have HM:=hid hm;have aP:m<=45:=by rw [hm];exact kat_max sec aq ar
 clear hm;obtain ⟨n,HN⟩:=nmd s.n;obtain ⟨t,HT⟩:=nmd s.t;rw [HN.out] at ar az HM ⊢;rw [HT.out] at aq az HM ⊢;have aA:∀w',Below w.heap.size w w'->w'.cell? ⟨p,0,none⟩=some (.int .i64 (n:Int))/\w'.cell? ⟨p,1,none⟩=some (.int .i64 (t:Int))/\p<w'.heap.size:=λw' hb=>by
  obtain ⟨⟨b,V,hS,_⟩,_⟩:=h.same hb;have:=hS.four;rw [HN.out,HT.out] at this;exact ⟨this.1,this.2.1,hS.lt⟩
 have HC:=hid aA;clear aA h hw;obtain ⟨c0,c1,aB⟩:=HC.out w (Below.refl _ _);go_enter Tryz.func123,Tryz.ntmps123;go_wp2_with (at_make;refine wpList_make_full _ rfl _ _ 52 rfl w.heap.size 70 i0 (.int .u64 0) 1 Tryz.underlying52 hi aI aJ .i64 .i64 _ _ n rfl rfl rfl rfl (by rw [aK];omega) (by unfold maxLen;omega) (Nat.le_refl _) ?_;intro w2 ab au);have aC:w2.ownsRow w.heap.size 70 1 (.slice (some ⟨w.heap.size,0,none⟩) n n) n ((ksm n t sec ds 0).map (Value.int .u64)):=(Blk.made ab).own (by simp) (Nat.le_refl _) (by omega);have aD:Below w.heap.size w w2:=(Below.refl _ _).grown au (Nat.le_refl _) (by simp);clear ab au;go_loopw [7,8,9] (λv q j wr=>∃i A:Nat,i<=n/\j = .int .i64 i/\q = .int .i64 A/\Hid (kat t sec i=A)/\A<=45/\wr.ownsRow w.heap.size 70 1 v n ((ksm n t sec ds i).map (Value.int .u64))/\Below w.heap.size w wr) (λ_ _ j _=>n-(intOf j).toNat)
 case atStart=>exact ⟨0,0,Nat.zero_le _,rfl,rfl,by unfold Hid kat;split <;> simp,by omega,aC,aD⟩
 case round=>
  clear aC aD c0 c1 aB;obtain ⟨i,A,aS,rfl,rfl,HA,aQ,ab,ad⟩:=hrel;obtain ⟨c0,c1,aB⟩:=HC.out wr ad;have aE:=ad.size;by_cases hlt:i<n
  ·have aR:(i:Int)<(n:Int):=by omega
   have av:kat t sec (i+1)<=m:=by rw [HM.out];exact kat_le (by omega)
   have ai:=kat_succ t sec i;rw [ai,HA.out] at av;have rr:=r.below ad;have aF:Hid (mxl (ksm n t sec ds i) (dl (kdr t sec ds i) n) 1 1 0 n=ksm n t sec ds (i+1)):=rfl;obtain ⟨u,c',rfl,aG,_⟩:=Rd.own ab (bd_u64 (ksm_ksh n t sec ds i).bd);cases sec with
   | true=>
    simp only [if_true] at av ai;obtain ⟨bb,o,x,rfl,aT,HX,aL,aM,aU⟩:=rr.one (show A<m by omega);have aw:Hid (kdr t true ds i=x :: (ds.drop (A+1)).take t):=by unfold Hid;rw [kdr_true,HA.out,HX.out]
    have ae:=rr.sub (lo:=A+1) (k:=t) (by omega);obtain ⟨sa,aj⟩:=nmd (subA (some ⟨bb,o,none⟩) c (A+1));have hsl:∀W,(Instr.sliceAt 52 (.slice (some ⟨bb,o,none⟩) m c) (some (.int .i64 ((A:Int)+1))) (some (.int .i64 ((A:Int)+1+(t:Int)))) none).run Tryz.prog W = .ok (.slice sa t (c-(A+1))) W:=λW=>by
     rw [<- aj.out];exact run_sub Tryz.underlying52 infoU1 _ m c (A+1) t (by push_cast;rfl) (by push_cast;rfl) (by omega) W
    rw [aj.out] at ae;have aN:IntKind.i64.wrap ((A:Int)+1+(t:Int))=(A:Int)+1+(t:Int):=by rw [IntKind.wrap_i64];omega
    have an:Hid (kat t true (i+1)=A+1+t):=by unfold Hid;rw [ai,HA.out]
    have aV:(A:Int)<(m:Int):=by omega
    have aW:(0:Int)<=(A:Int):=by omega
    have ax:Hid (∀w',Below wr.heap.size wr w'->Rd w' sa t (c-(A+1)) ((ds.drop (A+1)).take t)):=λw' hb=>ae.below hb;clear rr ae;go_wp2;go_region_with (go_at_call 73;refine (rDealt x _ _ _ ((ds.drop (A+1)).take t) n _ (ax.out _ (Below.refl _ _).drew) aL aM aq ar).mono ?_;rintro e w3 ⟨a3,c3,rfl,ak,al⟩;rw [<- aw.out] at ak)
    all_goals
     have af:Below wr.heap.size wr w3:=((Below.refl _ _).drew).trans (al.mono (Nat.le_refl _));have ao:=aG.below af;have aa:=ad.trans (af.mono aE);obtain ⟨d0,d1,ap⟩:=HC.out w3 aa;clear al af ab;go_wp2_with fail;refine (rMixed _ _ _ _ _ _ _ _ _ _ _ ao ak (by omega) (by omega) (by omega) (by omega) (by omega) (by omega) (by omega)).mono ?_;rintro e w5 ⟨v5,rfl,ag,am⟩;rw [aF.out] at ag;have ay:=own_baseV ag aa.size;have ah:=btr aa am;clear ag am d0 d1 ap;go_wp2;go_roundw
     case rel=>exact ⟨i+1,A+1+t,by omega,by go_num,by go_num,an,by omega,ay,ah⟩
     case measure=>simp [intOf];omega
   | false=>
    simp only [Bool.false_eq_true,if_false,Nat.add_zero] at av ai;have aw:Hid (kdr t false ds i=0 :: (ds.drop A).take t):=by unfold Hid;rw [kdr_fals,HA.out]
    have ae:=rr.sub (lo:=A) (k:=t) (by omega);obtain ⟨sa,aj⟩:=nmd (subA a c A);have hsl:∀W,(Instr.sliceAt 52 (.slice a m c) (some (.int .i64 (A:Int))) (some (.int .i64 ((A:Int)+(t:Int)))) none).run Tryz.prog W = .ok (.slice sa t (c-A)) W:=λW=>by
     rw [<- aj.out];exact run_sub Tryz.underlying52 infoU1 _ m c A t rfl rfl (by omega) W
    rw [aj.out] at ae;have aN:IntKind.i64.wrap ((A:Int)+(t:Int))=(A:Int)+(t:Int):=by rw [IntKind.wrap_i64];omega
    have an:Hid (kat t false (i+1)=A+t):=by unfold Hid;rw [ai,HA.out]
    have ax:Hid (∀w',Below wr.heap.size wr w'->Rd w' sa t (c-A) ((ds.drop A).take t)):=λw' hb=>ae.below hb;clear rr ae;go_wp2;go_region_with (go_at_call 73;refine (rDealt 0 _ _ _ ((ds.drop A).take t) n _ (ax.out _ (Below.refl _ _).drew) (by omega) (by omega) aq ar).mono ?_;rintro e w3 ⟨a3,c3,rfl,ak,al⟩;rw [<- aw.out] at ak)
    all_goals
     have af:Below wr.heap.size wr w3:=((Below.refl _ _).drew).trans (al.mono (Nat.le_refl _));have ao:=aG.below af;have aa:=ad.trans (af.mono aE);obtain ⟨d0,d1,ap⟩:=HC.out w3 aa;clear al af ab;go_wp2_with fail;refine (rMixed _ _ _ _ _ _ _ _ _ _ _ ao ak (by omega) (by omega) (by omega) (by omega) (by omega) (by omega) (by omega)).mono ?_;rintro e w5 ⟨v5,rfl,ag,am⟩;rw [aF.out] at ag;have ay:=own_baseV ag aa.size;have ah:=btr aa am;clear ag am d0 d1 ap;go_wp2;go_roundw
     case rel=>exact ⟨i+1,A+t,by omega,by go_num,by go_num,an,by omega,ay,ah⟩
     case measure=>simp [intOf];omega
  ·obtain rfl:i=n:=by omega
   have aX:¬ ((i:Int)<(i:Int)):=by omega
   go_wp2;go_ret;exact ⟨_,rfl,ab,ad⟩
theorem hsl_one (s:Kt) (x:Int):hsl s [x] 1=(s.f x).isSome:=by simp [hsl]
theorem hsl_two (s:Kt) (x y:Int):hsl s [x,y] 2=((s.f x).isSome && (s.f y).isSome):=by simp [hsl]
theorem rGen (p G s a m c ds w) (h:Stx 124 w p G s) (r:Rd w a m c ds) (hlast:s.last<=1000000):
  Calls Tryz.prog 84 #[.pointer (some ⟨p,0,none⟩),.slice a m c] w (Kde 124 p G (kgen s ds) w):=by
 have hw:=h.wf;have an:=hw.t4;have ag:=hw.n9;have ah:=hw.nt;have au:=r.cap;have am:=r.max;have ab:=r.len;unfold maxLen at am;have HH:=hid h;obtain ⟨⟨b,V,hS,_⟩,ao⟩:=h;obtain ⟨c0,c1,c2,c3⟩:=hS.four;have ap:=hS.lt;clear hS hw;obtain ⟨n,HN⟩:=nmd s.n;obtain ⟨t,HT⟩:=nmd s.t;rw [HN.out] at c0 ag ah;rw [HT.out] at c1 an ah;obtain ⟨T1,ad⟩:=nmd (t+1);have aq:(t:Int)+1=(T1:Int):=by rw [<- ad.out];omega
 obtain ⟨M,HM⟩:=nmd (n*T1);have aw:(n:Int)*(T1:Int)=(M:Int):=by rw [<- HM.out];push_cast;rfl
 have av:M<=45:=by rw [<- HM.out];exact Nat.mul_le_mul ag (show T1<=5 by rw [<- ad.out];omega)
 have ax:IntKind.i64.wrap ((T1:Int))=(T1:Int):=by rw [IntKind.wrap_i64];rw [<- aq];omega
 have ay:IntKind.i64.wrap ((M:Int))=(M:Int):=by rw [IntKind.wrap_i64];omega
 have ae:Hid (s.n*(s.t+1)=M):=by unfold Hid;rw [HN.out,HT.out,ad.out,HM.out]
 by_cases hm:m=M
 ·subst hm;have HG:Hid (kgen s ds=kadd s (ksm s.n s.t true ds s.n)):=if_pos (by rw [ab,ae.out]);have HK:=hid ae.out.symm;have ar:((m:Int) != (m:Int))=false:=by simp
  go_enter Tryz.func84,Tryz.ntmps84;go_wp2;go_quiet (fail);have aa:Below w.heap.size w (w.drewN nq):=drewN_below (Below.refl _ _) nq;generalize w.drewN nq=w1 at *;have h1:=HH.out.same aa;clear c0 c1 c2 c3 ap;go_wp2_with fail;refine (rSums p G s a m c ds true _ h1 (r.below aa) HK.out).mono ?_;rintro e w2 ⟨v,rfl,ai,aj⟩;obtain ⟨a2,c2,rfl,af,ak⟩:=Rd.own ai (bd_u64 (ksm_bd _ _ _ _ _));have al:=gnx_new (G:=G) af (by rw [HN.out];omega) ak;have h2:=h1.below aj;clear ai ak;go_wp2_with fail;refine (rKeep p _ s a2 c2 _ _ h2 af (ksm_bd _ _ _ _ _) al hlast).mono ?_;intro e w3 hK;have HR:Hid (Kde 124 p G (kgen s ds) w e w3):=by unfold Hid;rw [HG.out];exact (hK.behind aj h1.2).after aa ao
  obtain ⟨rfl,_,_⟩:=hK;clear h2 af al;rw [<- HG.out];go_wp2;go_ret2;rw [HG.out];exact HG.out ▸ HR.out
 ·have HG:Hid (kgen s ds=(0,1,s)):=if_neg (by rw [ab,ae.out];exact hm);have ar:((m:Int) != (M:Int))=true:=by rw [bne_iff_ne];omega
  clear hm;go_enter Tryz.func84,Tryz.ntmps84;go_wp2;go_quiet (fail);have aa:Below w.heap.size w (w.drewN nq):=drewN_below (Below.refl _ _) nq;generalize w.drewN nq=w1 at *;go_wp2;go_ret2;rw [HG.out];exact ⟨rfl,HH.out.below aa,Tch.of_below aa⟩
theorem sto_new (w:World) {n t:Nat} (ht:t<=4) (hn:n<=9) (h:2*t+1<=n) (TY:TypeId) {A:World} (hA:A=(w.alloc (.map #[] 0)).alloc (.cells #[.int .i64 n,.int .i64 t,.int .i64 0,.map (some w.heap.size)] TY)):
  Stx TY A (w.heap.size+1) (λi=>w.heap.size<=i/\i<w.heap.size+2) (k0 n t)/\Below w.heap.size w A:=by
 subst hA;have h1:=MapI.made w;have e1:(w.alloc (.map #[] 0)).heap.size=w.heap.size+1:=by simp
 have hb:Below (w.alloc (.map #[] 0)).heap.size (w.alloc (.map #[] 0)) ((w.alloc (.map #[] 0)).alloc (.cells #[.int .i64 n,.int .i64 t,.int .i64 0,.map (some w.heap.size)] TY)):=bal _ _;have h2:=heap_alloc_new (w.alloc (.map #[] 0)) (.cells #[.int .i64 n,.int .i64 t,.int .i64 0,.map (some w.heap.size)] TY);rw [e1] at h2;refine ⟨⟨⟨w.heap.size,λ_=>none,⟨h2,h1.below hb h1.lt,λi=>.inl ⟨rfl,rfl⟩,k0_wf ht hn h⟩,λi hi=>?_⟩,λi hi=>by simp;omega⟩,((Below.refl _ _).alloc (Nat.le_refl _) _).alloc (by simp) _⟩
 rcases hi with rfl | rfl | ⟨_,_,_,_,e,_⟩
 ·omega
 ·omega
 ·cases e
theorem rNewStore (n t:Nat) (w) (ht:t<=4) (hn:n<=9) (h:2*t+1<=n):
  Calls Tryz.prog 36 #[.int .i64 n,.int .i64 t] w λe w'=>∃p G,e = .returned (.pointer (some ⟨p,0,none⟩))/\Stx 124 w' p G (k0 n t)/\(∀i,G i->w.heap.size<=i)/\Below w.heap.size w w':=by
 have aa:=@run_makeMap Tryz.prog;obtain ⟨hX,hB⟩:=sto_new w ht hn h 124 rfl;have HX:=hid hX;have HB:=hid hB;clear hX hB;go_enter Tryz.func36,Tryz.ntmps36;go_wp2;go_ret;exact ⟨_,_,rfl,HX.out,λi hi=>hi.1,HB.out⟩
theorem rDrop (p G s) (x:Int) (w) (h:Stx 124 w p G s) (hx0: -9223372036854775808<=x) (hx1:x<=9223372036854775807):
  Calls Tryz.prog 90 #[.pointer (some ⟨p,0,none⟩),.int .i64 x] w (Kte 124 p G (kdrp s x) w):=by
 have hI:=rdI_of1 w (x:=x) ⟨hx0,hx1⟩;have ab:Below w.heap.size w (w.alloc (.cells #[.int .i64 x] 3)):=bal _ _;have ah:=h.2;have h0:=h.same ab;go_enter Tryz.func90,Tryz.ntmps90;go_wp2_with fail;generalize w.alloc (.cells #[.int .i64 x] 3)=w0 at *;refine (rHas p G s _ _ _ _ _ h0 hI).mono ?_;rintro e w1 ⟨rfl,ae⟩;rw [hsl_one];have ad:=btr ab ae;have h1:=h.same ad;clear h0 hI ab ae;cases hf:s.f x with
 | none=>
  have HE:Hid (kdrp s x=(4,s)):=by unfold Hid kdrp;rw [hf]
  simp only [Option.isSome_none];clear hf;go_wp2;go_ret;rw [HE.out];exact ⟨rfl,h.below ad,Tch.of_below ad⟩
 | some l=>
  have HE:Hid (kdrp s x=(0,kout s x)):=by unfold Hid kdrp;rw [hf]
  have HF:=hid hf;simp only [Option.isSome_some];obtain ⟨⟨b,V,hS,hF⟩,ag⟩:=h1;obtain ⟨c0,c1,c2,c3⟩:=hS.four;have ai:=hS.lt;have hM:=hS.map;clear hf;go_wp2_with (at_delete;refine wpList_delK _ rfl _ _ 122 rfl 52 Tryz.underlying122 b s.cnt V rfl hM x rfl ⟨hx0,hx1⟩ ?_;intro w2 af aa);have hk:∀i,i<w1.heap.size->i≠b->w2.heap[i]? = w1.heap[i]?:=λi hi hne=>aa.block i hi (by simpa using hne);have HP:=hS.out HF.out af hk;have HR:Hid (Kte 124 p G (0,kout s x) w1 (.returned (.int .i64 0)) w2):=by
   refine ⟨rfl,⟨⟨b,_,HP,λi hi=>.inl ?_⟩,Gnx.lt ag aa.size⟩,⟨aa.os,aa.tape,aa.output,aa.size,λi hi hn=>hk i hi (λe=>hn (hF _ (.inr (.inl e))))⟩⟩
   rcases hi with rfl | rfl | ⟨hh,a',m,c',e,rfl⟩
   ·exact hF _ (.inl rfl)
   ·exact hF _ (.inr (.inl rfl))
   ·unfold mset at e;split at e
    ·cases e
    ·exact hF _ (.inr (.inr ⟨hh,a',m,c',e,rfl⟩))
  clear hM af aa hk HP c0 c1 c2 c3 ai;go_wp2;go_ret;rw [HE.out];exact HR.out.after ad ah
theorem rOpenK (p G s) (x:Int) (w) (h:Stx 124 w p G s) (hx0: -9223372036854775808<=x) (hx1:x<=9223372036854775807):
  Calls Tryz.prog 89 #[.pointer (some ⟨p,0,none⟩),.int .i64 x] w λe w'=>∃y r,e = .returned (.tuple #[.int .u64 y,.int .i64 r])/\Kop s x y r/\Below w.heap.size w w':=by
 have hI:=rdI_of1 w (x:=x) ⟨hx0,hx1⟩;have ae:Below w.heap.size w (w.alloc (.cells #[.int .i64 x] 3)):=bal _ _;have h0:=h.same ae;have an:=h.wf.n9;go_enter Tryz.func89,Tryz.ntmps89;go_wp2_with fail;generalize w.alloc (.cells #[.int .i64 x] 3)=w0 at *;refine (rHas p G s _ _ _ _ _ h0 hI).mono ?_;rintro e w1 ⟨rfl,aj⟩;rw [hsl_one];have ah:=btr ae aj;clear h0 hI ae aj;cases hf:s.f x with
 | none=>
  have HE:Hid (Kop s x 0 4):=.inl ⟨hf,rfl,rfl⟩;simp only [Option.isSome_none];clear hf;go_wp2;go_ret2;exact ⟨0,4,rfl,HE.out,ah⟩
 | some l=>
  have HF:=hid hf;simp only [Option.isSome_some];clear hf;obtain ⟨n,HN⟩:=nmd s.n;rw [HN.out] at an;go_wp2;obtain ⟨ao⟩:Nonempty (w.heap.size<=w1.heap.size):=⟨ah.size⟩;go_loopw [6,7] (λv i wr=>∃k:Nat,k<=n/\i = .int .i64 k/\wr.ownsRow w1.heap.size 74 2 v k (shc (shl l k))/\Below w1.heap.size w1 wr) (λ_ i _=>n-(intOf i).toNat)
  case atStart=>exact ⟨0,Nat.zero_le _,rfl,World.ownsRow_nil _ _ _ _,Below.refl _ _⟩
  case round=>
   obtain ⟨k,hk,rfl,aa,ab⟩:=hrel;have ad:=ah.trans (ab.mono ao);obtain ⟨⟨b,V,hS,_⟩,_⟩:=h.same ad;obtain ⟨c0,c1,c2,c3⟩:=hS.four;rw [HN.out] at c0;have au:=hS.lt;have hM:=hS.map;have av:=ab.size;by_cases hlt:k<n
   ·obtain ⟨a,c,hV,hr⟩:∃a c,V x=some (.slice a n c)/\Rd wr a n c l:=by
     rcases hS.val x with e | ⟨l',a,c,e1,e2,e3⟩
     ·have:=HF.out;rw [e.1] at this;cases this
     ·have e4:=HF.out;rw [e1] at e4;obtain rfl:=Option.some.inj e4;rw [HN.out] at e2 e3;exact ⟨a,c,e2,e3⟩
    obtain ⟨bb,o,y,rfl,aw,HY,ax,ay,az⟩:=hr.one hlt;have HV:Hid ((V x).getD (.slice none 0 0) = .slice (some ⟨bb,o,none⟩) n c):=by unfold Hid;rw [hV];rfl
    have ap:Hid (shl l k ++ [((k:Int)+1,y)]=shl l (k+1)):=shl_snoc l k HY.out;have ar:(k:Int)<(n:Int):=by omega
    have aA:=hr.cap;have aq:=hr.max;unfold maxLen at aq;clear hS hV hr;go_wp2_with (first | (at_lookup;refine wpList_lookV _ rfl _ _ 122 rfl 52 Tryz.underlying122 _ (zeroL _) b s.cnt V rfl hM x rfl ⟨hx0,hx1⟩ ?_;rw [HV.out]) | (at_builtin;refine wpList_appS Tryz.underlying72 infoSh _ rfl _ _ rfl w1.heap.size _ _ _ rfl aa _ _ rfl (by omega) (by omega) ?_;intro v' w7 af ag;rw [ap.out] at af;have ai:=ab.trans ag;clear ag));go_roundw
    case rel=>exact ⟨k+1,by omega,by go_num,af,ai⟩
    case measure=>simp [intOf];omega
   ·obtain rfl:k=n:=by omega
    have ak:=h.wf.key x l HF.out;obtain ⟨b',d',rfl,hr⟩:=RdS.own aa (shl_len _ _) (λi hi=>by
     have:=getD_bd' ak.2.2 i;rw [shl_getD l hi];exact ⟨by simp only;omega,by simp only;omega⟩)
    have aB:¬ ((k:Int)<(k:Int)):=by omega
    obtain ⟨t,HT⟩:=nmd s.t;rw [HT.out] at c1;clear aa ak hM hS;go_wp2_with fail;refine (rOpenS _ _ _ _ _ _ hr).mono ?_;rintro e w5 ⟨y,q,rfl,hO,al⟩;have HO:Hid (Kop s x y q):=.inr ⟨l,HF.out,by rw [HN.out,HT.out];exact hO⟩;have am:=btr ad al;clear hr al hO;go_wp2;go_ret2;exact ⟨y,q,rfl,HO.out,am⟩
end
end Go.Proofs.YtljlioglpaogdacGreatDoor

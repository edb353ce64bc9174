/- ValC RefProdC WireC -/
import Derived.Test.YtljlioglpaogdacGreatDoorToCheckC
import Derived.BigQuiet
namespace Go.Proofs.YtljlioglpaogdacGreatDoor
set_option linter.unusedVariables false
set_option maxRecDepth 100000
set_option maxHeartbeats 8000000
section
open Crm Go.RowKit
theorem drewN_below {B a w} (h:Below B a w) (n:Nat):Below B a (w.drewN n):=by
 induction n with
 | zero=>exact h
 | succ n ih=>exact ih.drew
theorem horner (xs:List Int) (x:Int) {m:Nat} {y z:Int} (h:m<xs.length) (hy:y=nm (ev (xs.drop (m+1)) x)) (hz:xs.getD m 0=z):nm (nm (y*x)+z)=nm (ev (xs.drop m) x):=by
 rw [ev_drop xs x h,hy,hz,nm_addl];have:∀E:Int,nm (nm E*x+z)=nm (z+x*E):=λE=>by
  rw [Int.add_comm,<- nm_addr,nm_mull,nm_addr,Int.mul_comm x]
 exact this _
theorem cValueQ (a n c xs) (x:Int) (w) (h:Rd w a n c xs) (hx0:0<=x) (hx1:x<=18446744073709551615):
  Calls Tryz.prog 155 #[.slice a n c,.int .u64 x] w λe w'=>e = .returned (.int .u64 (nm (ev xs x)))/\∃q,w'=w.drewN q:=by
 have hm:=h.max;have ad:=h.cap;have ae:=h.len;unfold maxLen at hm;go_enter Tryz.func155,Tryz.ntmps155;go_wp2;go_loopw [5,6] (λs i wr=>∃(k:Nat) (y:Int) (q:Nat),k<=n/\i = .int .i64 ((k:Int)-1)/\s = .int .u64 y/\0<=y/\y<=2147483646/\Hid (y=nm (ev (xs.drop k) x))/\wr=w.drewN q) (λ_ i _=>(intOf i+1).toNat)
 case atStart=>exact ⟨n,0,0,Nat.le_refl _,rfl,rfl,by omega,by omega,by rw [List.drop_of_length_le (by omega)];exact rfl,rfl⟩
 case round=>
  obtain ⟨k,y,q,hk,rfl,rfl,ag,ah,HY,aa⟩:=hrel;have ab:Below w.heap.size w wr:=by rw [aa];exact drewN_below (Below.refl _ _) q
  have HW:=hid aa;clear aa;cases k with
  | zero=>
   go_wp2;go_ret;rw [<- List.drop_zero (l:=xs),<- HY.out];exact ⟨rfl,q,HW.out⟩
  | succ m=>
   obtain ⟨b,o,z,rfl,hb,HZ,ai,aj,hc⟩:=(h.below ab).one (show m<n by omega);have af:=nm_bd (y*x);have ak:(0:Int)<=(m:Int):=by omega
   have al:(m:Int)<(n:Int):=by omega
   go_wp2;go_quiet ((first | (go_at_call 149;exact Calls.quiet_of_same (fMul _ _ _ (by omega) (by omega) (by omega) (by omega))) | (go_at_call 148;exact Calls.quiet_of_same (fAdd _ _ _ (by omega) (by omega) (by omega) (by omega)))))
   all_goals
    go_wp2;go_roundw
    case rel=>exact ⟨m,_,_,by omega,by go_num,rfl,(nm_bd _).1,(nm_bd _).2,horner xs x (by omega) HY.out HZ.out,by rw [HW.out,World.drewN_drewN]⟩
    case measure=>simp [intOf]
theorem cValue (a n c xs) (x:Int) (w) (h:Rd w a n c xs) (hx0:0<=x) (hx1:x<=18446744073709551615):
  Calls Tryz.prog 155 #[.slice a n c,.int .u64 x] w λe w'=>e = .returned (.int .u64 (nm (ev xs x)))/\Below w.heap.size w w':=by
 refine (cValueQ _ _ _ _ _ _ h hx0 hx1).mono ?_;rintro e w' ⟨he,q,rfl⟩;exact ⟨he,drewN_below (Below.refl _ _) q⟩
theorem nil_rd (w:World):Rd w none 0 0 []:=⟨rfl,Nat.le_refl _,Nat.zero_le _,by simp,λ_=>rfl,by simp⟩
def cvk (ps qs:List Int) (k:Nat):List Int:=(List.range k).map λq=>nm (pc ps qs q ps.length)
theorem cvk_step (ps qs:List Int) (k:Nat) {v:Int} (e:v=nm (pc ps qs k ps.length)):cvk ps qs k ++ [v]=cvk ps qs (k+1):=by
 unfold cvk;rw [List.range_succ,List.map_append,e];rfl
theorem cvk_bd (ps qs:List Int) (k:Nat):∀x ∈ cvk ps qs k,0<=x/\x<=18446744073709551615:=by
 intro x hx;obtain ⟨k,_,rfl⟩:=List.mem_map.1 hx;have:=nm_bd (pc ps qs k ps.length);omega
theorem pc_more (ps qs:List Int) (k:Nat):∀d,pc ps qs k (k+1+d)=pc ps qs k (k+1)
 | 0=>rfl
 | d+1=>by
  show pc ps qs k (k+1+d)+tm ps qs k (k+1+d)=_
  rw [pc_more ps qs k d,tm,if_neg (by omega),Int.add_zero]
theorem pc_end (ps qs:List Int) (k i:Nat) (h:i=k+1\/i=ps.length) (hi:i<=ps.length) (hk:i<=k+1):pc ps qs k i=pc ps qs k ps.length:=by
 rcases h with rfl | rfl
 ·have:=pc_more ps qs k (ps.length-(k+1));rw [show k+1+(ps.length-(k+1))=ps.length by omega] at this;exact this.symm
 ·rfl
theorem pc_hit {ps qs:List Int} {k i:Nat} {x y s:Int} (hk:i<=k) (hx:ps.getD i 0=x) (hy:qs.getD (k-i) 0=y) (hs:s=nm (pc ps qs k i)):nm (s+nm (x*y))=nm (pc ps qs k (i+1)):=by
 rw [pc,tm,if_pos hk,hx,hy,hs,nm_addl,nm_addr]
theorem pc_miss {ps qs:List Int} {k i:Nat} (hk:qs.length<=k-i):pc ps qs k (i+1)=pc ps qs k i:=by
 rw [pc,tm];have:qs.getD (k-i) 0=0:=by rw [List.getD_eq_getElem?_getD,List.getElem?_eq_none hk];rfl
 split
 ·rw [this,Int.mul_zero,Int.add_zero]
 ·rw [Int.add_zero]
theorem rProduct1 (a n c xs b m d ys w) (h:Rd w a n c xs) (g:Rd w b m d ys) (hn:n<=1000) (hm:m<=1000) (hx:0<tl (nz xs) n) (hy:0<tl (nz ys) m):
  Calls Tryz.prog 194 #[.slice a n c,.slice b m d] w λe w'=>∃a' c',e = .returned (.slice a' (tl (nz xs) n+tl (nz ys) m-1) c')/\Rd w' a' (tl (nz xs) n+tl (nz ys) m-1) c' (cvl (nrm xs) (nrm ys))/\Below w.heap.size w w'/\∀x,a'=some x->w.heap.size<=x.block:=by
 obtain ⟨i0,hi,aM,aN,aO⟩:=info_parts infoR70;have az:=tl_le (nz xs) n;have aA:=tl_le (nz ys) m;have aj:=nrm_len xs;have ak:=nrm_len ys;rw [h.len] at aj;rw [g.len] at ak;have aP:=h.len;have aQ:=g.len;obtain ⟨N,HN⟩:=nmd (tl (nz xs) n);obtain ⟨M,HM⟩:=nmd (tl (nz ys) m);rw [HN.out] at hx az aj;rw [HM.out] at hy aA ak;rw [HN.out,HM.out];have aR:((N:Int)==0)=false:=by rw [beq_eq_false_iff_ne];omega
 have aS:((M:Int)==0)=false:=by rw [beq_eq_false_iff_ne];omega
 go_enter Tryz.func194,Tryz.ntmps194;go_wp2_with fail;refine (rNormal _ _ _ _ _ h (by omega)).mono ?_;rintro e w1 ⟨a1,c1,rfl,am,al,aB⟩;rw [HN.out] at am ⊢;go_wp2_with fail;refine (rNormal _ _ _ _ _ (g.below al) (by omega)).mono ?_;rintro e w2 ⟨a2,c2,rfl,an,ao,aC⟩;rw [HM.out] at an ⊢;have ap:=am.below ao;have aq:Below w.heap.size w w2:=btr al ao;have av:=aq.size;obtain ⟨X,aw⟩:=nmd (nrm xs);obtain ⟨Y,ax⟩:=nmd (nrm ys);rw [aw.out] at ap aj;rw [ax.out] at an ak;clear am al ao aB aC h g;go_wp2;go_loopw [5,6] (λv i wr=>∃k:Nat,k<=N+M-1/\i = .int .i64 k/\wr.ownsRow w2.heap.size 70 1 v k ((cvk X Y k).map (Value.int .u64))/\Below w2.heap.size w2 wr) (λ_ i _=>N+M-1-(intOf i).toNat)
 case atStart=>exact ⟨0,Nat.zero_le _,rfl,World.ownsRow_nil _ _ _ _,Below.refl _ _⟩
 case round=>
  obtain ⟨k,hk,rfl,ah,aa⟩:=hrel;obtain ⟨wo,aD⟩:∃wo,wo=wr:=⟨_,rfl⟩;subst aD;by_cases hlt:k<N+M-1
  ·go_wp2;go_loopw [7,8] (λs i wr=>∃(j:Nat) (y:Int),j<=N/\j<=k+1/\i = .int .i64 j/\s = .int .u64 y/\0<=y/\y<=2147483646/\Hid (y=nm (pc X Y k j))/\Below wo.heap.size wo wr) (λ_ i _=>N-(intOf i).toNat)
   case atStart=>exact ⟨0,0,Nat.zero_le _,Nat.zero_le _,rfl,rfl,by omega,by omega,rfl,Below.refl _ _⟩
   case round=>
    obtain ⟨j,y,hj,aT,rfl,rfl,aE,aF,HY,ad⟩:=hrel;by_cases h1:j<=k
    ·by_cases h2:j<N
     ·by_cases h3:k-j<M
      ·have ar:Below w2.heap.size w2 wr:=btr aa ad;obtain ⟨b1,o1,x,rfl,aU,HX,aV,aW,aX⟩:=(ap.below ar).one h2;obtain ⟨b2,o2,z,rfl,aH,HZ,aI,aJ,aY⟩:=(an.below ar).one h3;have aK:=nm_bd (x*z);have aL:((k:Int)-(j:Int)).toNat=k-j:=by omega
       have ay:(0:Int)<=(k:Int)-(j:Int):=by omega
       have aZ:(k:Int)-(j:Int)<(M:Int):=by omega
       clear ar;go_wp2;go_quiet ((first | (go_at_call 160;exact Calls.quiet_of_same (rMul _ _ _ (by omega) (by omega) (by omega) (by omega))) | (go_at_call 159;exact Calls.quiet_of_same (rAdd _ _ _ (by omega) (by omega) (by omega) (by omega)))))
       all_goals
        go_wp2;go_roundw
        case rel=>exact ⟨j+1,_,by omega,by omega,by go_num,rfl,(nm_bd _).1,(nm_bd _).2,pc_hit h1 HX.out HZ.out HY.out,drewN_below ad _⟩
        case measure=>simp [intOf];omega
      ·go_wp2;go_roundw
       case rel=>exact ⟨j+1,_,by omega,by omega,by go_num,rfl,aE,aF,by rw [pc_miss (by omega)];exact HY.out,ad⟩
       case measure=>simp [intOf];omega
     ·have HV:Hid (y=nm (pc X Y k X.length)):=by rw [<- pc_end X Y k j (.inr (by omega)) (by omega) (by omega)];exact HY.out
      have ae:=own_below ah ad;have ab:Below w2.heap.size w2 wr:=btr aa ad;clear ah aa ad;have ay:=ab.size;go_wp2_with (at_builtin;refine wpList_app1 Tryz.underlying52 infoR70 _ rfl _ _ rfl w2.heap.size _ _ _ rfl ae _ rfl (by omega) (by omega) ?_;intro v' w3 af ag;rw [cvk_step X Y k HV.out] at af;have ai:=ab.trans ag;clear ae ab ag);go_roundw
      case rel=>exact ⟨k+1,by omega,by go_num,af,ai⟩
      case measure=>simp [intOf];omega
    ·have HV:Hid (y=nm (pc X Y k X.length)):=by rw [<- pc_end X Y k j (.inl (by omega)) (by omega) (by omega)];exact HY.out
     have ae:=own_below ah ad;have ab:Below w2.heap.size w2 wr:=btr aa ad;clear ah aa ad;have ay:=ab.size;go_wp2_with (at_builtin;refine wpList_app1 Tryz.underlying52 infoR70 _ rfl _ _ rfl w2.heap.size _ _ _ rfl ae _ rfl (by omega) (by omega) ?_;intro v' w3 af ag;rw [cvk_step X Y k HV.out] at af;have ai:=ab.trans ag;clear ae ab ag);go_roundw
     case rel=>exact ⟨k+1,by omega,by go_num,af,ai⟩
     case measure=>simp [intOf];omega
  ·have au:k=N+M-1:=by omega
   obtain ⟨a',c',rfl,hr,aG⟩:=Rd.own ah (cvk_bd X Y k);have HE:Hid (cvl X Y=cvk X Y k):=by unfold Hid cvl cvk;rw [aj,ak,au]
   have HK:=hid au.symm;clear au;go_wp2;go_ret;rw [aw.out,ax.out,HE.out,HK.out];exact ⟨a',c',rfl,hr,aq.trans (aa.mono av),λx hx=>Nat.le_trans av (aG x hx)⟩
theorem rProduct0 (a n c xs b m d ys w) (h:Rd w a n c xs) (g:Rd w b m d ys) (hn:n<=1000) (hm:m<=1000) (hxy:tl (nz xs) n=0\/tl (nz ys) m=0):
  Calls Tryz.prog 194 #[.slice a n c,.slice b m d] w λe w'=>e = .returned (.slice none 0 0)/\Below w.heap.size w w':=by
 have ae:=tl_le (nz xs) n;have af:=tl_le (nz ys) m;obtain ⟨N,HN⟩:=nmd (tl (nz xs) n);obtain ⟨M,HM⟩:=nmd (tl (nz ys) m);rw [HN.out] at hxy ae;rw [HM.out] at hxy af;go_enter Tryz.func194,Tryz.ntmps194;go_wp2_with fail;refine (rNormal _ _ _ _ _ h (by omega)).mono ?_;rintro e w1 ⟨a1,c1,rfl,ag,aa,ah⟩;rw [HN.out];go_wp2_with fail;refine (rNormal _ _ _ _ _ (g.below aa) (by omega)).mono ?_;rintro e w2 ⟨a2,c2,rfl,ai,ad,aj⟩;rw [HM.out];have ab:Below w.heap.size w w2:=btr aa ad;clear ag aa ad ah aj h g ai;by_cases hN:N=0
 ·have ak:((N:Int)==0)=true:=by rw [beq_iff_eq];omega
  clear hxy hN;go_wp2;go_ret;exact ⟨rfl,ab⟩
 ·have ak:((N:Int)==0)=false:=by rw [beq_eq_false_iff_ne];omega
  have al:((M:Int)==0)=true:=by rw [beq_iff_eq];omega
  clear hxy hN;go_wp2;go_ret;exact ⟨rfl,ab⟩
structure RdL (w:World) (g k:Nat) (ns:List Nat):Prop where
 len:ns.length=k
 lt:g<w.heap.size
 cell:∀i,i<k->∃ai ci,w.cell? ⟨g,i,none⟩=some (.slice ai (ns.getD i 0) ci)
theorem rdL_one (w:World) (a:Option Addr) (n c:Nat) (E:TypeId):RdL (w.alloc (.cells #[.slice a n c] E)) w.heap.size 1 [n]:=by
 refine ⟨rfl,by simp,λi hi=>?_⟩
 obtain rfl:i=0:=by omega
 exact ⟨a,c,by rw [cell_of_row _ _ 0 _ E (0,0) (heap_alloc_new w _)];rfl⟩
theorem rdL_two (w:World) (a:Option Addr) (n c:Nat) (b:Option Addr) (m d:Nat) (E:TypeId):RdL (w.alloc (.cells #[.slice a n c,.slice b m d] E)) w.heap.size 2 [n,m]:=by
 refine ⟨rfl,by simp,λi hi=>?_⟩
 match i,hi with
 | 0,_=>exact ⟨a,c,by rw [cell_of_row _ _ 0 _ E (0,0) (heap_alloc_new w _)];rfl⟩
 | 1,_=>exact ⟨b,d,by rw [cell_of_row _ _ 1 _ E (0,0) (heap_alloc_new w _)];rfl⟩
def Wk (ns:List Nat) (k:Nat):Prop:=(1<=ns.getD 0 0/\ns.getD 0 0<=9)/\∀i,i<k->ns.getD i 0=ns.getD 0 0
end
end Go.Proofs.YtljlioglpaogdacGreatDoor

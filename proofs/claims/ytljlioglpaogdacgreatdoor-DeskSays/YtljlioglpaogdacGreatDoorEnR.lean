/- EnR -/
import Derived.Test.YtljlioglpaogdacGreatDoorToOpenC
import Derived.Test.YtljlioglpaogdacGreatDoorToStepC
namespace Go.Proofs.YtljlioglpaogdacGreatDoor
set_option linter.unusedVariables false
set_option maxRecDepth 100000
set_option maxHeartbeats 8000000
section
open Crm Go.RowKit
def rpl (x:Int) (n k:Nat):List Int:=(List.range n).map λi=>if i<k then x else 0
theorem rpl_len (x:Int) (n k:Nat):(rpl x n k).length=n:=by simp [rpl]
theorem rpl_zero (x:Int) (n:Nat):List.replicate n (0:Int)=rpl x n 0:=by
 apply List.ext_getElem?;intro i;by_cases hi:i<n
 ·simp [rpl,hi]
 ·simp [rpl,hi]
theorem rpl_full (x:Int) (n:Nat):rpl x n n=List.replicate n x:=by
 apply List.ext_getElem?;intro i;by_cases hi:i<n
 ·simp [rpl,hi]
 ·simp [rpl,hi]
theorem rpl_splice (x:Int) (n k m:Nat) (h:k+m<=n):Go.splice ((rpl x n k).map (Value.int .u64)) k ((List.replicate m x).map (Value.int .u64))=(rpl x n (k+m)).map (Value.int .u64):=by
 apply List.ext_getElem?;intro i;unfold Go.splice;rw [List.length_map,List.length_replicate];have hl:((rpl x n k).map (Value.int .u64)).length=n:=by rw [List.length_map,rpl_len]
 rcases Nat.lt_or_ge i k with e | e
 ·rw [List.getElem?_append_left (by rw [List.length_take,hl];omega),List.getElem?_take,if_pos e];simp [rpl,e,show i<n by omega,show i<k+m by omega]
 ·rw [List.getElem?_append_right (by rw [List.length_take,hl];omega),List.length_take,hl,Nat.min_eq_left (by omega)];rcases Nat.lt_or_ge i (k+m) with e2 | e2
  ·rw [List.getElem?_append_left (by simp;omega)];simp [rpl,show i-k<m by omega,show i<n by omega,e2]
  ·rw [List.getElem?_append_right (by simp;omega),List.length_map,List.length_replicate,List.getElem?_drop,show k+m+(i-k-m)=i by omega];by_cases hi:i<n
   ·simp [rpl,hi,show ¬ i<k by omega,show ¬ i<k+m by omega]
   ·simp [rpl,hi]
theorem run_subh {P:Program} {T E:TypeId} (hT:P.underlying T=some (.slice E)) (hE:(P.info? E).map (·.size)=some 1) (a:Option Addr) (n c k:Nat) (hz:a=none->c=0) (hc:k<=c) (W:World):
  (Instr.sliceAt T (.slice a n c) none (some (.int .i64 (k:Int))) none).run P W = .ok (.slice a k c) W:=by
 have he:P.elem T=E:=by simp [Program.elem,hT]
 have aa:P.underlying T=some (.slice (P.elem T)):=by rw [he];exact hT
 cases hi:P.info? E with
 | none=>simp [hi] at hE
 | some i=>
  have hs:i.size=1:=by simpa [hi] using hE
  rw [run_sliceAt_slice W T _ _ _ _ aa,run_slice_h W T a n c aa .i64 (k:Int) (by omega) (by omega),he];cases a with
  | none=>simp [sizeOf,typeInfo,hi,hs,sliced,Result.andThen]
  | some x=>simp [sizeOf,typeInfo,hi,hs,sliced,Result.andThen,Addr.add]
theorem zMul64 (n:Nat) (w) (hn:n<=9):
  Calls Tryz.prog 205 #[.int .u64 1,.int .u64 (n:Int)] w λe w'=>e = .returned (.tuple #[.int .u64 0,.int .u64 (n:Int)])/\w'=w:=by
 match n,hn with
 | 0,_=>go_enter Tryz.func205,Tryz.ntmps205;go_wp2;go_ret2;exact ⟨rfl,rfl⟩
 | 1,_=>go_enter Tryz.func205,Tryz.ntmps205;go_wp2;go_ret2;exact ⟨rfl,rfl⟩
 | 2,_=>go_enter Tryz.func205,Tryz.ntmps205;go_wp2;go_ret2;exact ⟨rfl,rfl⟩
 | 3,_=>go_enter Tryz.func205,Tryz.ntmps205;go_wp2;go_ret2;exact ⟨rfl,rfl⟩
 | 4,_=>go_enter Tryz.func205,Tryz.ntmps205;go_wp2;go_ret2;exact ⟨rfl,rfl⟩
 | 5,_=>go_enter Tryz.func205,Tryz.ntmps205;go_wp2;go_ret2;exact ⟨rfl,rfl⟩
 | 6,_=>go_enter Tryz.func205,Tryz.ntmps205;go_wp2;go_ret2;exact ⟨rfl,rfl⟩
 | 7,_=>go_enter Tryz.func205,Tryz.ntmps205;go_wp2;go_ret2;exact ⟨rfl,rfl⟩
 | 8,_=>go_enter Tryz.func205,Tryz.ntmps205;go_wp2;go_ret2;exact ⟨rfl,rfl⟩
 | 9,_=>go_enter Tryz.func205,Tryz.ntmps205;go_wp2;go_ret2;exact ⟨rfl,rfl⟩
theorem zMul (n:Nat) (w) (hn:n<=9):
  Calls Tryz.prog 181 #[.int .u64 1,.int .u64 (n:Int)] w λe w'=>e = .returned (.tuple #[.int .u64 0,.int .u64 (n:Int)])/\w'=w:=by
 go_enter Tryz.func181,Tryz.ntmps181;go_wp2_with (go_at_call 205;refine (zMul64 n _ hn).mono ?_;rintro e w3 ⟨rfl,hw⟩;have hw:=hw.symm;subst hw);go_ret2;exact ⟨rfl,rfl⟩
theorem infoRpt:(Tryz.prog.info? 70).map (·.size)=some 1:=by kernel_rfl
theorem zRepeat (a c) (x:Int) (n:Nat) (w) (h:Rd w a 1 c [x]) (hn1:1<=n) (hn:n<=9):
  Calls Tryz.prog 142 #[.slice a 1 c,.int .i64 (n:Int)] w λe w'=>∃v,e = .returned v/\w'.ownsRow w.heap.size 70 1 v n ((List.replicate n x).map (Value.int .u64))/\Below w.heap.size w w':=by
 obtain ⟨i0,hi,aC,aD,aE⟩:=info_parts info70;obtain ⟨C1,af⟩:=nmd ((List.replicate 1 x).map (Value.int .u64));have ab:Hid (C1.length=1):=by unfold Hid;rw [<- af.out];rfl
 have am:Hid (∀v ∈ C1,v.oneCell'=true):=by unfold Hid;rw [<- af.out];exact one_ints _
 have an:Hid (∀w2,Rd w2 a 1 c [x]->∃ad,a=some ad/\∀j v,C1[j]? = some v->w2.cell? (ad.add j)=some v):=λw2 h2=>by
  obtain ⟨b,o,rfl,_,hc⟩:=h2.at (k:=0) (by omega);refine ⟨_,rfl,λj v hj=>?_⟩
  have ah:=(List.getElem?_eq_some_iff.1 hj).1;rw [ab.out] at ah;obtain rfl:j=0:=by omega
  rw [<- af.out] at hj;simp at hj;subst hj;rw [Addr.add_lit];exact hc 0 (by omega)
 go_enter Tryz.func142,Tryz.ntmps142;go_wp2_with (first | (go_at_call 181;refine (zMul n _ hn).mono ?_;rintro e w3 ⟨rfl,hw⟩;have hw:=hw.symm;subst hw) | (at_make;refine wpList_make_full _ rfl _ _ 52 rfl w.heap.size 70 i0 (.int .u64 0) 1 Tryz.underlying52 hi aC aD .i64 .i64 _ _ n rfl rfl (by omega) (by omega) (by rw [aE];omega) (by unfold maxLen;omega) (Nat.le_refl _) ?_;intro w2 ao ai;have au:Blk w2 w.heap.size (rpl x n 0):=(by rw [<- rpl_zero];exact Blk.made ao);have ap:Below w.heap.size w w2:=(Below.refl _ _).grown ai (Nat.le_refl _) (by simp);clear ao ai) | (refine Go.wpList_copy_splice rfl _ _ _ _ rfl 70 Tryz.underlying52 infoRpt _ _ _ _ _ _ rfl rfl w.heap.size 0 ((rpl x n 0).map (Value.int .u64)) 70 au C1 (by rw [ab.out];exact (Nat.min_eq_left hn1).symm) (λ_=>⟨rfl,an.out _ (h.below ap)⟩) (by rw [ab.out,List.length_map,rpl_len];omega) am.out w.heap.size w ap (Nat.le_refl _) ?_;intro w4 av aw;rw [ab.out]));have ax:Blk w4 w.heap.size (rpl x n 1):=by
  have:=av.out;rw [<- af.out,rpl_splice x n 0 1 (by omega)] at this;exact this
 clear av au ap af ab am an;have ay:decide ((n:Int)<0)=false:=by simp
 have az:decide ((9223372036854775807:Int)<(n:Int))=false:=by simp;omega
 rw [ay,az];clear ay az;go_loopw [8] (λv wr=>∃k:Nat,1<=k/\k<=n/\v = .int .i64 k/\Blk wr w.heap.size (rpl x n k)/\Below w.heap.size w wr) (λv _=>n-(intOf v).toNat)
 case atStart=>exact ⟨1,Nat.le_refl _,hn1,rfl,ax,aw⟩
 case round=>
  clear ax aw;obtain ⟨k,aJ,hk,rfl,aa,ag⟩:=hrel;have aK:=aa.lt;by_cases hlt:k<n
  ·obtain ⟨m,HM⟩:=nmd (Nat.min k (n-k));have aF:1<=m/\m<=k/\k+m<=n:=by have h1:=HM.out;have h2:min k (n-k)=m:=h1;omega
   obtain ⟨C2,aj⟩:=nmd ((List.replicate m x).map (Value.int .u64));have ae:Hid (C2.length=m):=by unfold Hid;rw [<- aj.out];simp
   have aq:Hid (∀v ∈ C2,v.oneCell'=true):=by unfold Hid;rw [<- aj.out];exact one_ints _
   have ar:Hid (∀j v,C2[j]? = some v->wr.drew.cell? (Addr.add ⟨w.heap.size,0,none⟩ j)=some v):=λj v hj=>by
    have ah:=(List.getElem?_eq_some_iff.1 hj).1;rw [ae.out] at ah;rw [<- aj.out] at hj;simp [ah] at hj;subst hj;rw [Addr.add_lit,Nat.zero_add];have:=aa.cell (i:=j) (by rw [rpl_len];omega);have e:(rpl x n k).getD j 0=x:=by simp [rpl,show j<n by omega,show j<k by omega]
    rw [e] at this;exact this
   have aA:Hid (∀w6:World,Hid (w6.heap[w.heap.size]? = some (.cells (Go.splice ((rpl x n k).map (Value.int .u64)) k C2).toArray 70 (0,0)))->Blk w6 w.heap.size (rpl x n (k+m))):=λw6 h6=>by
    have:=h6.out;rw [<- aj.out,rpl_splice x n k m aF.2.2] at this;exact this
   have e1:∀W,(Instr.sliceAt 52 (.slice (some ⟨w.heap.size,0,none⟩) n n) (some (.int .i64 (k:Int))) none none).run Tryz.prog W = .ok (.slice (some ⟨w.heap.size,k,none⟩) (n-k) (n-k)) W:=λW=>by
    have:=run_subl (P:=Tryz.prog) Tryz.underlying52 infoRpt (some ⟨w.heap.size,0,none⟩) n n k rfl hk W;rw [this,subA,if_neg (by omega),Option.map_some,Addr.add_lit,Nat.zero_add]
   have e2:∀W,(Instr.sliceAt 52 (.slice (some ⟨w.heap.size,0,none⟩) n n) none (some (.int .i64 (k:Int))) none).run Tryz.prog W = .ok (.slice (some ⟨w.heap.size,0,none⟩) k n) W:=λW=>run_subh Tryz.underlying52 infoRpt (some ⟨w.heap.size,0,none⟩) n n k (λe=>by simp at e) hk W;have aL:IntKind.i64.wrap ((k:Int)+(m:Int))=(k:Int)+(m:Int):=by rw [IntKind.wrap_i64];omega
   have ak:Blk wr.drew w.heap.size (rpl x n k):=aa;have al:=ag.drew;go_wp2;go_region_law (refine Go.step_copy_splice rfl _ _ _ _ rfl 70 Tryz.underlying52 infoRpt (some ⟨w.heap.size,k,none⟩) (some ⟨w.heap.size,0,none⟩) (n-k) (n-k) k n (by simp [Act.eval,Act.put]) (by simp [Act.eval,Act.put]) w.heap.size k ((rpl x n k).map (Value.int .u64)) 70 ak C2 (by rw [ae.out];exact HM.out.symm) (λ_=>⟨rfl,_,rfl,ar.out⟩) (by rw [ae.out,List.length_map,rpl_len];omega) aq.out w.heap.size w al (Nat.le_refl _) ?_;intro w6 aB aG;have aH:=aA.out w6 aB;clear aB;rw [ae.out])
   all_goals
    clear ak al aa ag aA ar aq;go_simp;go_roundw
    case rel=>
     refine ⟨_,_,_,_,_,_,_,_,_,_,_,_,_,_,?_,rfl⟩
     exact ⟨k+m,by omega,by omega,by go_num,aH,aG⟩
    case measure=>simp [intOf];omega
  ·have aI:k=n:=by omega
   subst aI;rw [rpl_full] at aa;have ho:wr.ownsRow w.heap.size 70 1 (.slice (some ⟨w.heap.size,0,none⟩) k k) k ((List.replicate k x).map (Value.int .u64)):=
    ⟨by simp,.inr ⟨w.heap.size,k,_,rfl,Nat.le_refl _,aa,Nat.le_refl _,by unfold maxLen;omega,by simp,by simp⟩⟩
   go_wp2;go_ret;exact ⟨_,rfl,ho,ag⟩
end
end Go.Proofs.YtljlioglpaogdacGreatDoor

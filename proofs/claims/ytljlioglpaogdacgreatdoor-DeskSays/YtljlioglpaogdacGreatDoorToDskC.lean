/- DlZ DlAll DskC -/
import Derived.Test.YtljlioglpaogdacGreatDoorToDlElse
namespace Go.Proofs.YtljlioglpaogdacGreatDoor
set_option linter.unusedVariables false
set_option maxRecDepth 100000
set_option maxHeartbeats 8000000
section
open Crm Go.RowKit
theorem Cre.rb {G O n m q r} (h:Cre G O n m q r): -9223372036854775808<=r/\r<=9223372036854775807:=by
 rcases h with ⟨_,h⟩ | ⟨_,⟨_,rfl⟩ | ⟨_,rfl⟩⟩
 ·have:=h.bd;omega
 all_goals omega
theorem Ere.rb {G O N m n t q d r} (h:Ere G O N m n t q d r): -9223372036854775808<=r/\r<=9223372036854775807:=by
 rcases h with ⟨_,⟨_,h⟩ | ⟨_,⟨_,rfl⟩ | ⟨_,rfl⟩⟩⟩ | ⟨_,⟨_,rfl⟩ | ⟨_,⟨_,rfl⟩ | ⟨_,rfl⟩⟩⟩
 ·have:=h.bd;omega
 all_goals omega
theorem sad_size {l:List Int} {r:Int} (hl:∀x ∈ l,0<=x/\x<=18446744073709551615) (hr: -9223372036854775808<=r/\r<=9223372036854775807):(sad l r).size<=22*l.length+27:=by
 unfold sad;split
 ·have:=sdn_size hl l.length;omega
 ·have:=erB_size r hr.1 hr.2;omega
theorem fne_size {r:Int} (hr: -9223372036854775808<=r/\r<=9223372036854775807):(fne r).size<=27:=by
 unfold fne;split
 ·have:okB.size=2:=rfl;omega
 ·exact erB_size r hr.1 hr.2
theorem Dky.small {v N s s' out} (h:Dky v N s out s') (hl:s.last<=1000000):out.size<=100/\s'.last<=s.last+1:=by
 have H:∀r:Int×Int×Kt,(0<=r.1/\r.1<=9223372036854775807/\-9223372036854775808<=r.2.1/\r.2.1<=9223372036854775807)->r.2.2.last<=s.last+1->Dkh r out s'->out.size<=100/\s'.last<=s.last+1:=by
  intro r h1 h2 ⟨e1,e2⟩;subst e1 e2;have:=sad_size (l:=[r.1]) (r:=r.2.1) (λx hx=>by obtain rfl:=List.mem_singleton.1 hx;omega) ⟨h1.2.2.1,h1.2.2.2⟩;simp only [List.length_singleton] at this;exact ⟨by omega,h2⟩
 have K:∀l:List Int,(kadd s l).2.2.last<=s.last+1:=λl=>by
  rcases kadd_cases s l with ⟨_,e⟩ | ⟨_,e⟩
  ·rw [e];exact Nat.le_succ _
  ·rw [e];exact Nat.le_refl _
 unfold Dky at h;by_cases e1:v=vGen
 ·rw [if_pos e1] at h;refine H _ (kgen_rb N hl) ?_ h;unfold kgen;split
  ·exact K _
  ·exact Nat.le_succ _
 rw [if_neg e1] at h;by_cases e2:v=vRefr
 ·rw [if_pos e2] at h;obtain ⟨e,e'⟩:=h;subst e e';unfold krfr;split
  ·split
   ·exact ⟨by have:=fne_size (r:=0) (by omega);show (fne 0).size<=100;omega,Nat.le_succ _⟩
   ·exact ⟨by have:=fne_size (r:=1) (by omega);show (fne 1).size<=100;omega,Nat.le_succ _⟩
  ·exact ⟨by have:=fne_size (r:=4) (by omega);show (fne 4).size<=100;omega,Nat.le_succ _⟩
 rw [if_neg e2] at h;have KM:∀g i a b c:Int,(kmix s g i a b c).2.2.last<=s.last+1:=λg i a b c=>by
  unfold kmix;split
  ·exact K _
  ·exact Nat.le_succ _
 by_cases e3:v=vTwk
 ·rw [if_pos e3] at h;exact H _ (kmix_rb _ _ _ _ _ hl) (KM _ _ _ _ _) h
 rw [if_neg e3] at h;by_cases e4:v=vComb
 ·rw [if_pos e4] at h;exact H _ (kmix_rb _ _ _ _ _ hl) (KM _ _ _ _ _) h
 rw [if_neg e4] at h;by_cases e5:v=vMult
 ·rw [if_pos e5] at h;refine H _ (kmul_rb _ _ _ hl) ?_ h;unfold kmul;split
  ·split
   ·exact K _
   ·exact Nat.le_succ _
  ·exact Nat.le_succ _
 rw [if_neg e5] at h;by_cases e6:v=vKey
 ·rw [if_pos e6] at h;obtain ⟨rfl,x,r,h1,rfl⟩:=h;have hv:=h1.val2;have:=sad_size (l:=[x]) (r:=r) (λy hy=>by obtain rfl:=List.mem_singleton.1 hy;omega) h1.rb;simp only [List.length_singleton] at this;exact ⟨by omega,Nat.le_succ _⟩
 rw [if_neg e6] at h;obtain ⟨e,e'⟩:=h;subst e e';unfold kdrp;split
 ·exact ⟨by have:=fne_size (r:=0) (by omega);show (fne 0).size<=100;omega,Nat.le_succ _⟩
 ·exact ⟨by have:=fne_size (r:=4) (by omega);show (fne 4).size<=100;omega,Nat.le_succ _⟩
theorem otl_small (G:List Gt) (O I:List Int) (m:Nat):∀x ∈ otl G O I m,0<=x/\x<=18446744073709551615:=λx hx=>by have:=otl_bd G O I m x hx;omega
theorem Dci.small {v l T G O n out} (h:Dci v l G O out) (hP:Par T G O n 0):out.size<=200000:=by
 obtain ⟨h1,h2,h3,h4⟩:=(par_ck hP).ok;unfold Dci at h;by_cases e1:v=vShow
 ·rw [if_pos e1] at h;have:=txt_size h3 h4 h1.2 h2.2;rw [h,ByteArray.size_append];have:okB.size=2:=rfl;omega
 rw [if_neg e1] at h;by_cases e2:v=vRun
 ·rw [if_pos e2] at h;obtain ⟨r,k1,rfl⟩:=h;have:=sad_size (otl_small G O (nba l) O.length) k1.rb;rw [otl_len] at this;omega
 rw [if_neg e2] at h;obtain ⟨j,r,_,k1,rfl⟩:=h;have:=sad_size (otl_small G O ((nbl l j).drop 2) O.length) k1.rb;rw [otl_len] at this;omega
theorem Dln.small {T S v l out T' S'} (h:Dln T S v l out T' S') (hT:T.size<=2048) {k:Nat} (hk:k<=1000000) (hl:∀s,S=some s->s.last<=k):out.size<=200000/\T'.size<=2048/\∀s,S'=some s->s.last<=k+1:=by
 have HE:∀r:Int,-9223372036854775808<=r->r<=9223372036854775807->(erB r).size<=200000:=λr h0 h1=>by have:=erB_size r h0 h1;omega
 have HO:okB.size<=200000:=by have:okB.size=2:=rfl;omega
 have HS:∀s,S=some s->s.last<=k+1:=λs e=>Nat.le_succ_of_le (hl s e);rcases h with ⟨_,rfl,rfl,rfl⟩ | ⟨_,h⟩
 ·exact ⟨HE 3 (by omega) (by omega),hT,HS⟩
 unfold Dac at h;by_cases e1:v=vCirc
 ·rw [if_pos e1] at h;obtain ⟨rfl,⟨_,rfl,rfl⟩ | ⟨h1,rfl,rfl⟩⟩:=h
  ·exact ⟨HE 2 (by omega) (by omega),hT,HS⟩
  ·refine ⟨HO,?_,HS⟩
   rw [ByteArray.size_append,ByteArray.size_append];have:nlB.size=1:=rfl;omega
 rw [if_neg e1] at h;by_cases e2:v=vDeal
 ·rw [if_pos e2] at h;obtain ⟨rfl,rfl,rfl⟩:=h;refine ⟨?_,hT,HS⟩
  unfold dla;split
  ·rename_i hd;have:=sad_size (l:=dl ((nba l).getD 1 0 :: (nba l).drop 2) ((nba l).getD 0 0).toNat) (r:=0) (λx hx=>by have:=dl_bd _ _ x hx;omega) (by omega);rw [dl_len] at this;omega
  ·exact HE 1 (by omega) (by omega)
 rw [if_neg e2] at h;by_cases e3:v=vOpen
 ·rw [if_pos e3] at h;obtain ⟨rfl,rfl,x,B,r,h1,rfl⟩:=h;refine ⟨?_,hT,HS⟩
  obtain ⟨k1,k2,k3⟩:=h1.small;have:=sad_size (l:=x :: B) (r:=r) (λy hy=>by
   rcases List.mem_cons.1 hy with rfl | hy
   ·omega
   ·have:=k2 y hy;omega) h1.rb
  simp only [List.length_cons] at this;omega
 rw [if_neg e3] at h;by_cases e4:v=vClear
 ·rw [if_pos e4] at h;obtain ⟨rfl,rfl,rfl⟩:=h;exact ⟨HO,Nat.zero_le _,HS⟩
 rw [if_neg e4] at h;by_cases e5:v=vShow\/v=vRun\/v=vWork
 ·rw [if_pos e5] at h;obtain ⟨rfl,rfl,G,O,n,r,h1,⟨_,rfl⟩ | ⟨rfl,h2⟩⟩:=h
  ·refine ⟨?_,hT,HS⟩
   have b:=h1.bd;have c:=par_at h1;have:=erj_size (r:=r) (n:=n) (by omega) (by omega) (by omega);rw [ByteArray.size_append,ByteArray.size_append];have e:spB.size=1:=rfl;have:=erB_size r (by omega) (by omega);omega
  ·exact ⟨h2.small h1,hT,HS⟩
 rw [if_neg e5] at h;by_cases e6:v=vKeys
 ·rw [if_pos e6] at h;obtain ⟨rfl,⟨_,rfl,rfl⟩ | ⟨_,rfl,rfl⟩⟩:=h
  ·exact ⟨HO,hT,λs e=>by obtain rfl:=Option.some.inj e;exact Nat.zero_le _⟩
  ·exact ⟨HE 1 (by omega) (by omega),hT,HS⟩
 rw [if_neg e6] at h;obtain ⟨rfl,⟨_,rfl,rfl⟩ | ⟨s,s',rfl,rfl,h⟩⟩:=h
 ·exact ⟨HE 4 (by omega) (by omega),hT,λs e=>by cases e⟩
 ·have hs:=hl s rfl;obtain ⟨k1,k2⟩:=h.small (by omega);exact ⟨by omega,hT,λq e=>by obtain rfl:=Option.some.inj e;omega⟩
theorem rLine (w0 w p G T S) (v:ByteArray) (a n c l) (h:Bnc w0 w p G T S) (r:RdT w a n c l) (hn:n<=70000) (hTz:T.size<=2048) (hlast:∀s,S=some s->s.last<=1000000) (hwz:∀i,i<n->(tx l i).size<=70000) (hT:Tabs w0) (hV:Vb w0):
  Calls Tryz.prog 14 #[.pointer (some ⟨p,0,none⟩),.string v,.slice a n c] w (Lle w0 p G T S v l w):=by
 by_cases n_vDeal:v=vDeal
 ·subst n_vDeal;exact rLineDeal w0 w p G T S a n c l h r hn hTz hlast hT hV
 by_cases n_vMult:v=vMult
 ·subst n_vMult;exact rLineMult w0 w p G T S a n c l h r hn hTz hlast hT hV
 by_cases n_vWork:v=vWork
 ·subst n_vWork;exact rLineWork w0 w p G T S a n c l h r hn hTz hlast hT hV
 by_cases n_vOpen:v=vOpen
 ·subst n_vOpen;exact rLineOpen w0 w p G T S a n c l h r hn hTz hlast hT hV
 by_cases n_vRefr:v=vRefr
 ·subst n_vRefr;exact rLineRefr w0 w p G T S a n c l h r hn hTz hlast hT hV
 by_cases n_vClear:v=vClear
 ·subst n_vClear;exact rLineClear w0 w p G T S a n c l h r hn hTz hlast hT hV
 by_cases n_vShow:v=vShow
 ·subst n_vShow;exact rLineShow w0 w p G T S a n c l h r hn hTz hlast hT hV
 by_cases n_vKeys:v=vKeys
 ·subst n_vKeys;exact rLineKeys w0 w p G T S a n c l h r hn hTz hlast hT hV
 by_cases n_vTwk:v=vTwk
 ·subst n_vTwk;exact rLineTwk w0 w p G T S a n c l h r hn hTz hlast hT hV
 by_cases n_vComb:v=vComb
 ·subst n_vComb;exact rLineComb w0 w p G T S a n c l h r hn hTz hlast hT hV
 by_cases n_vKey:v=vKey
 ·subst n_vKey;exact rLineKey w0 w p G T S a n c l h r hn hTz hlast hT hV
 by_cases n_vDrop:v=vDrop
 ·subst n_vDrop;exact rLineDrop w0 w p G T S a n c l h r hn hTz hlast hT hV
 by_cases n_vRun:v=vRun
 ·subst n_vRun;exact rLineRun w0 w p G T S a n c l h r hn hTz hlast hT hV
 by_cases n_vGen:v=vGen
 ·subst n_vGen;exact rLineGen w0 w p G T S a n c l h r hn hTz hlast hT hV
 by_cases n_vCirc:v=vCirc
 ·subst n_vCirc;exact rLineCirc w0 w p G T S a n c l h r hn hTz hlast hwz hT hV
 exact rLineElse w0 w p G T S v a n c l h r hn hT hV n_vDeal n_vMult n_vWork n_vOpen n_vRefr n_vClear n_vShow n_vKeys n_vTwk n_vComb n_vKey n_vDrop n_vRun n_vGen n_vCirc
theorem Bnc.new (w:World):Bnc w (w.alloc (.cells #[.string ⟨#[]⟩,.pointer none] 46)) w.heap.size (λ_=>False) mt none:=by
 refine ⟨⟨none,heap_alloc_new w _,.inl ⟨rfl,rfl⟩⟩,λi h=>h.elim,id,λi h=>h.elim,Nat.le_refl _,(Below.refl _ _).alloc (Nat.le_refl _) _⟩
theorem tln_len (s:ByteArray):(tln s).length<=s.size+1:=by
 have:=(pcs_len s 10 s.size).2;have:(lns s).length<=s.size+1:=this;unfold tln;split
 ·rw [List.length_take];omega
 ·exact this
theorem tln_size (s:ByteArray):∀x ∈ tln s,x.size<=s.size:=λx hx=>by
 unfold tln at hx
 split at hx
 ·exact lns_last s x (List.mem_of_mem_take hx)
 ·exact lns_last s x hx
theorem tx_mem {L:List ByteArray} {i:Nat} (h:i<L.length):tx L i ∈ L:=by
 unfold tx;rw [List.getD_eq_getElem?_getD,List.getElem?_eq_getElem h];exact List.getElem_mem _
def Dkl (s:ByteArray) (w:World) (e:Ending) (w':World):Prop:=∃out,e = .returned (.string out)/\Dsk s out/\Below w.heap.size w w'
theorem rDesk (s:ByteArray) (w) (hs:s.size<=2000000) (hT:Tabs w) (hV:Vb w):
  Calls Tryz.prog 5 #[.string s] w (Dkl s w):=by
 have HE:Hid ((⟨#[101,114,114,111,114,32,50,10]⟩:ByteArray)=erB 2++nlB):=by unfold Hid;decide +kernel
 go_enter Tryz.func5,Tryz.ntmps5;go_wp2_with fail;refine (rTextLines s _ hs).mono ?_;rintro e w1 ⟨a,c,rfl,hr,aa⟩;have aB:=hr.cap;have aC:=hr.max;unfold maxLen at aC;have aE:=tln_len s;have HZ:Hid (∀x ∈ tln s,x.size<=s.size):=tln_size s;obtain ⟨n,HN⟩:=nmd ((tln s).length);rw [HN.out] at hr aB aE ⊢;by_cases h65:65536<s.size
 ·have aD:(65536:Int)<(s.size:Int):=by omega
  have HD:Hid (Dsk s (erB 2++nlB)):=.inl ⟨.inl h65,rfl⟩;go_wp2;go_ret;exact ⟨_,rfl,by rw [HE.out];exact HD.out,aa⟩
 have aD:¬ (65536:Int)<(s.size:Int):=by omega
 by_cases h200:200<n
 ·have ao:(200:Int)<(n:Int):=by omega
  have HD:Hid (Dsk s (erB 2++nlB)):=.inl ⟨.inr (by rw [HN.out];exact h200),rfl⟩;go_wp2;go_ret;exact ⟨_,rfl,by rw [HE.out];exact HD.out,aa⟩
 have ao:¬ (200:Int)<(n:Int):=by omega
 have HF:Hid (∀out T S,Dks (tln s) n out T S->Dsk s out):=λout T S h=>.inr ⟨by rw [HN.out];omega,T,S,by rw [HN.out];exact h⟩;obtain ⟨L,HL⟩:=nmd (tln s);rw [HL.out] at hr HZ HF;have aZ:=hr.len;have ar:=Bnc.new w1;have aF:=hT.below aa;have aG:=hV.below aa;obtain ⟨p,HP⟩:=nmd w1.heap.size;rw [HP.out] at ar;go_upto_if 3 with fail;rw [HP.out];go_wp2;go_loopw [5,6] (λvv q wr=>∃(i:Nat) (out T:ByteArray) (S:Option Kt) (G:Nat->Prop),i<=n/\q = .int .i64 (i:Int)/\vv = .string out/\Dks L i out T S/\Bnc w1 wr p G T S/\out.size<=200001*i/\T.size<=2048/\∀s,S=some s->s.last<=i) (λ_ q _=>n-(intOf q).toNat)
 case atStart=>exact ⟨0,mt,mt,none,λ_=>False,Nat.zero_le _,rfl,rfl,⟨rfl,rfl,rfl⟩,ar,Nat.zero_le _,Nat.zero_le _,λs e=>by cases e⟩
 case round=>
  obtain ⟨i,out,T,S,G,hi,rfl,rfl,hD,hB,a4,ae,au⟩:=hrel;have ah:=hid hD;have aH:=hid hB;have af:=hid au;have ab:=hB.bel;have a5:=ab.size;have ai:=hr.below ab;clear hD hB au;by_cases hlt:i<n
  ·obtain ⟨b,o,x,rfl,a6,HX,a7,a8⟩:=ai.one hlt;have a9:x.size<=s.size:=by rw [<- HX.out];exact HZ.out _ (tx_mem (by omega))
   have a0:(i:Int)<(n:Int):=by omega
   go_wp2_with fail;refine (rLineWords x _ (by omega)).mono ?_;rintro e w2 ⟨a2,c2,rfl,ad,aI⟩;have av:Hid (∀y ∈ wrd x,1<=y.size/\y.size<=x.size):=wrd_size x;have aJ:=wrd_len x;have ap:=ad.cap;have aq:=ad.max;unfold maxLen at aq;have aw:Hid (¬ asked x->Dks L (i+1) out T S):=λh=>⟨out,T,S,ah.out,.inl ⟨by rw [HX.out];exact h,rfl,rfl,rfl⟩⟩;have aK:Hid (∀z T' S',asked x->Dln T S (tx (wrd x) 0) ((wrd x).drop 1) z T' S'->Dks L (i+1) (out++(z++nlB)) T' S'):=λz T' S' h k=>⟨out,T,S,ah.out,.inr ⟨by rw [HX.out];exact h,z,by rw [HX.out];exact k,rfl⟩⟩;have aj:=aH.out.same aI;obtain ⟨m,HM⟩:=nmd ((wrd x).length);rw [HM.out] at ad ap aJ ⊢;clear ai ab;by_cases hm:0<m
   ·obtain ⟨b2,o2,v,rfl,a3,ag,ba,ax⟩:=ad.one hm;rw [Nat.add_zero] at ax;obtain ⟨bb,bc⟩:1<=v.size/\v.size<=x.size:=by rw [<- ag.out];exact av.out _ (tx_mem (by rw [HM.out];exact hm))
    have be:(0:Int)<(m:Int):=by omega
    obtain ⟨y,HY⟩:=nmd (bt v 0);have bf:∀W,(Instr.index 9 (.string v) (.int .i64 0)).run Tryz.prog W = .ok (.int .u8 y) W:=λW=>by rw [<- HY.out];exact bt_run (P:=Tryz.prog) Tryz.underlying9 v (i:=0) (by omega) W
    have bg:0<=y/\y<=255:=by rw [<- HY.out];exact bt_bd v 0
    by_cases hy:y=35
    ·have ak:Hid (Dks L (i+1) out T S):=aw.out λh=>h.2 (by rw [ag.out,HY.out,hy]);have aL:(y != 35)=false:=by rw [bne_eq_false_iff_eq];exact hy
     clear hy;go_wp2;go_roundw
     case rel=>exact ⟨i+1,out,T,S,G,by omega,by go_num,rfl,ak.out,aj,by omega,ae,λs e=>Nat.le_succ_of_le (af.out s e)⟩
     case measure=>simp [intOf];omega
    ·have aM:Hid (asked x):=⟨by rw [HM.out];exact hm,by rw [ag.out,HY.out];exact hy⟩;have aL:(y != 35)=true:=by rw [bne_iff_ne];exact hy
     clear hy;have rD:=ad.sub (lo:=1) (by omega);have hsl:∀W,(Instr.sliceAt 24 (.slice (some ⟨b2,o2,none⟩) m c2) (some (.int .i64 1)) none none).run Tryz.prog W = .ok (.slice (subA (some ⟨b2,o2,none⟩) c2 1) (m-1) (c2-1)) W:=λW=>run_subl Tryz.underlying24 infoStr1 _ m c2 1 (by rfl) (by omega) W;obtain ⟨sa,aN⟩:=nmd (subA (some ⟨b2,o2,none⟩) c2 1);rw [aN.out] at rD hsl;have ay:Hid (∀k,k<m-1->(tx ((wrd x).drop 1) k).size<=70000):=λk hk=>by
      have:=av.out (tx ((wrd x).drop 1) k) (List.mem_of_mem_drop (tx_mem (by rw [List.length_drop,HM.out];exact hk)));omega
     obtain ⟨d,al⟩:=nmd (m-1);obtain ⟨c3,aO⟩:=nmd (c2-1);have aP:d<=70000:=by rw [<- al.out];omega
     rw [al.out,aO.out] at hsl rD;rw [al.out] at ay;have az:Bnc w1 w2.drew p G T S:=aj.same ((Below.refl _ _).drew);have aA:RdT w2.drew sa d c3 ((wrd x).drop 1):=rD.below ((Below.refl _ _).drew);have aQ:w2.drew.cell? ⟨b2,o2,none⟩=some (.string v):=ax;have aR:Hid (∀s,S=some s->s.last<=1000000):=λs e=>by have:=af.out s e;omega
     go_wp2;go_region_with (first | (go_at_call 14;refine (rLine w1 _ p G T S v _ d c3 ((wrd x).drop 1) az aA aP ae aR.out ay.out aF aG).mono ?_;rintro e w3 ⟨z,T',S',rfl,am,aS,aT⟩;obtain ⟨bh,aU,aV⟩:=am.small ae (show i<=1000000 by omega) af.out;have a1:=add_big (P:=Tryz.prog) z ⟨#[10]⟩ (by have:=nl_size;omega);obtain ⟨Z2,an⟩:=nmd (z++⟨#[10]⟩);have bi:Z2.size<=200001:=(by rw [<- an.out,ByteArray.size_append];have:=nl_size;omega);rw [an.out] at a1;have a2:=add_big (P:=Tryz.prog) out Z2 (by omega)))
     all_goals
      have aW:Hid (Dks L (i+1) (out++Z2) T' S'):=by unfold Hid;rw [<- an.out];exact aK.out z T' S' aM.out (by rw [ag.out];exact am)
      have aX:(out++Z2).size<=200001*(i+1):=by rw [ByteArray.size_append];omega
      clear am aT az aA aQ;go_wp2;go_roundw
      case rel=>exact ⟨i+1,out++Z2,T',S',_,by omega,by go_num,rfl,aW.out,aS,aX,aU,aV⟩
      case measure=>simp [intOf];omega
   ·obtain rfl:m=0:=by omega
    have ak:Hid (Dks L (i+1) out T S):=aw.out λh=>by have:=h.1;rw [HM.out] at this;omega
    go_wp2;go_roundw
    case rel=>exact ⟨i+1,out,T,S,G,by omega,by go_num,rfl,ak.out,aj,by omega,ae,λs e=>Nat.le_succ_of_le (af.out s e)⟩
    case measure=>simp [intOf];omega
  ·obtain rfl:i=n:=by omega
   have bj:¬ ((i:Int)<(i:Int)):=by omega
   have aY:=btr aa ab;clear ai ab;go_wp2;go_ret;exact ⟨out,rfl,HF.out _ _ _ ah.out,aY⟩
end
end Go.Proofs.YtljlioglpaogdacGreatDoor

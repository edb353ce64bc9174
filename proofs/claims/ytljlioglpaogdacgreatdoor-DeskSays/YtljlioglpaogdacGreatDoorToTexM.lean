/- DskM DskA DskB DdA DshM DdH TexM -/
import Derived.Test.YtljlioglpaogdacGreatDoorToParN
import Derived.Test.YtljlioglpaogdacGreatDoorToChkC
import Derived.Test.YtljlioglpaogdacGreatDoorEnR
import Derived.Test.YtljlioglpaogdacGreatDoorToTwByM
namespace Go.Proofs.YtljlioglpaogdacGreatDoor
set_option linter.unusedVariables false
set_option maxRecDepth 100000
set_option maxHeartbeats 8000000
section
open Crm
def wrd (l:ByteArray):List ByteArray:=(pcs l 32 l.size).filter λx=>x.size != 0
def tln (s:ByteArray):List ByteArray:=if tx (lns s) (lnn s)=mt then (lns s).take (lnn s) else lns s
def spB:ByteArray:=⟨#[32]⟩
def nlB:ByteArray:=⟨#[10]⟩
def okB:ByteArray:=⟨#[111,107]⟩
def slB:ByteArray:=⟨#[47]⟩
def erB (r:Int):ByteArray:=⟨#[101,114,114,111,114,32]⟩++itb r
def sdn (l:List Int):Nat->ByteArray
 | 0=>mt
 | k+1=>(if k=0 then mt else sdn l k++spB)++itb (l.getD k 0)
def sad (l:List Int) (r:Int):ByteArray:=if r=0 then sdn l l.length else erB r
def fne (r:Int):ByteArray:=if r=0 then okB else erB r
def jnw (l:List ByteArray):Nat->ByteArray
 | 0=>mt
 | k+1=>(if k=0 then mt else jnw l k++spB)++tx l k
def vCirc:ByteArray:=⟨#[99,105,114,99,117,105,116]⟩
def vDeal:ByteArray:=⟨#[100,101,97,108]⟩
def vOpen:ByteArray:=⟨#[111,112,101,110]⟩
def vClear:ByteArray:=⟨#[99,108,101,97,114]⟩
def vShow:ByteArray:=⟨#[115,104,111,119]⟩
def vRun:ByteArray:=⟨#[114,117,110]⟩
def vWork:ByteArray:=⟨#[119,111,114,107]⟩
def vKeys:ByteArray:=⟨#[107,101,121,115]⟩
def vGen:ByteArray:=⟨#[103,101,110]⟩
def vRefr:ByteArray:=⟨#[114,101,102,114,101,115,104]⟩
def vTwk:ByteArray:=⟨#[116,119,101,97,107]⟩
def vComb:ByteArray:=⟨#[99,111,109,98,105,110,101]⟩
def vMult:ByteArray:=⟨#[109,117,108,116,105,112,108,121]⟩
def vKey:ByteArray:=⟨#[107,101,121]⟩
def vDrop:ByteArray:=⟨#[100,114,111,112]⟩
def nba (l:List ByteArray):List Int:=nbl l l.length
def slash (l:List ByteArray) (j:Nat):Prop:=j<l.length/\tx l j=slB/\∀i,i<j->tx l i≠slB
theorem slash.one {l i j} (h:slash l i) (k:slash l j):i=j:=by
 rcases Nat.lt_trichotomy i j with e | e | e
 ·exact absurd h.2.1 (k.2.2 i e)
 ·exact e
 ·exact absurd k.2.1 (h.2.2 j e)
def Syn (v:ByteArray) (l:List ByteArray):Prop:=
 if v=vCirc then 1<=l.length
 else if v=vDeal\/v=vMult then okn l l.length/\2<=l.length
 else if v=vWork then ∃j,slash l j/\okn l j/\okn (l.drop (j+1)) (l.length-(j+1))/\2<=j
 else if v=vOpen then okn l l.length/\l.length%2=1
 else if v=vRefr then okn l l.length/\1<=l.length
 else if v=vClear\/v=vShow then okn l l.length/\l.length=0
 else if v=vKeys\/v=vTwk then okn l l.length/\l.length=2
 else if v=vComb then okn l l.length/\l.length=4
 else if v=vKey\/v=vDrop then okn l l.length/\l.length=1
 else if v=vRun\/v=vGen then okn l l.length
 else False
def prs (N:List Int):List (Int×Int):=(List.range ((N.length-1)/2)).map λi=>(N.getD (2*i+1) 0,N.getD (2*i+2) 0)
def dla (N:List Int):ByteArray:=if N.length-2<=4/\((N.length-2:Nat):Int)<N.getD 0 0/\N.getD 0 0<=9 then sad (dl (N.getD 1 0 :: N.drop 2) (N.getD 0 0).toNat) 0 else erB 1
def Dci (v:ByteArray) (l:List ByteArray) (G:List Gt) (O:List Int) (out:ByteArray):Prop:=
 if v=vShow then out=otx (gtx G G.length) O O.length++okB
 else if v=vRun then ∃r,Cre G O G.length O.length l.length r/\out=sad (otl G O (nba l) O.length) r
 else ∃j r,slash l j/\Ere G O G.length O.length ((nbl l j).getD 0 0) ((nbl l j).getD 1 0) (j-2) (l.length-(j+1)) r/\out=sad (otl G O ((nbl l j).drop 2) O.length) r
def Dkh (r:Int×Int×Kt) (out:ByteArray) (s':Kt):Prop:=out=sad [r.1] r.2.1/\s'=r.2.2
def Dkt (r:Int×Kt) (out:ByteArray) (s':Kt):Prop:=out=fne r.1/\s'=r.2
def Dky (v:ByteArray) (N:List Int) (s:Kt) (out:ByteArray) (s':Kt):Prop:=
 if v=vGen then Dkh (kgen s N) out s'
 else if v=vRefr then Dkt (krfr s (N.getD 0 0) (N.drop 1)) out s'
 else if v=vTwk then Dkh (kmix s (N.getD 0 0) (N.getD 0 0) 1 0 (N.getD 1 0)) out s'
 else if v=vComb then Dkh (kmix s (N.getD 0 0) (N.getD 1 0) (N.getD 2 0) (N.getD 3 0) 0) out s'
 else if v=vMult then Dkh (kmul s (N.getD 0 0) (N.getD 1 0) (N.drop 2)) out s'
 else if v=vKey then s'=s/\∃x r,Kop s (N.getD 0 0) x r/\out=sad [x] r
 else Dkt (kdrp s (N.getD 0 0)) out s'
def Dac (T:ByteArray) (S:Option Kt) (v:ByteArray) (l:List ByteArray) (out T':ByteArray) (S':Option Kt):Prop:=
 if v=vCirc then S'=S/\((2048<T.size+(jnw l l.length).size+1/\out=erB 2/\T'=T)\/(T.size+(jnw l l.length).size+1<=2048/\out=okB/\T'=T++(jnw l l.length++nlB)))
 else if v=vDeal then T'=T/\S'=S/\out=dla (nba l)
 else if v=vOpen then T'=T/\S'=S/\∃x B r,Rob (prs (nba l)) ((l.length-1)/2) ((nba l).getD 0 0) x B r/\out=sad (x :: B) r
 else if v=vClear then T'=mt/\S'=S/\out=okB
 else if v=vShow\/v=vRun\/v=vWork then T'=T/\S'=S/\∃G O at_ r,Par T G O at_ r/\((r≠0/\out=erB r++(spB++itb (at_:Int)))\/(r=0/\Dci v l G O out))
 else if v=vKeys then T'=T/\((((0<=(nba l).getD 1 0/\(nba l).getD 1 0<=4)/\(nba l).getD 0 0<=9/\2*(nba l).getD 1 0+1<=(nba l).getD 0 0)/\out=okB/\S'=some (k0 ((nba l).getD 0 0).toNat ((nba l).getD 1 0).toNat))\/
   (¬ ((0<=(nba l).getD 1 0/\(nba l).getD 1 0<=4)/\(nba l).getD 0 0<=9/\2*(nba l).getD 1 0+1<=(nba l).getD 0 0)/\out=erB 1/\S'=S))
 else T'=T/\((S=none/\out=erB 4/\S'=none)\/∃s s',S=some s/\S'=some s'/\Dky v (nba l) s out s')
def Dln (T:ByteArray) (S:Option Kt) (v:ByteArray) (l:List ByteArray) (out T':ByteArray) (S':Option Kt):Prop:=
 (¬ Syn v l/\out=erB 3/\T'=T/\S'=S)\/(Syn v l/\Dac T S v l out T' S')
def asked (l:ByteArray):Prop:=1<=(wrd l).length/\bt (tx (wrd l) 0) 0≠35
def Dks (L:List ByteArray):Nat->ByteArray->ByteArray->Option Kt->Prop
 | 0,out,T,S=>out=mt/\T=mt/\S=none
 | i+1,out,T,S=>∃o0 T0 S0,Dks L i o0 T0 S0/\((¬ asked (tx L i)/\out=o0/\T=T0/\S=S0)\/(asked (tx L i)/\∃x,Dln T0 S0 (tx (wrd (tx L i)) 0) ((wrd (tx L i)).drop 1) x T S/\out=o0++(x++nlB)))
def Dsk (s out:ByteArray):Prop:=((65536<s.size\/200<(tln s).length)/\out=erB 2++nlB)\/(¬ (65536<s.size\/200<(tln s).length)/\∃T S,Dks (tln s) (tln s).length out T S)
theorem nba_len (l:List ByteArray):(nba l).length=l.length:=by simp [nba,nbl]
theorem prs_len (N:List Int):(prs N).length=(N.length-1)/2:=by simp [prs]
theorem Dky.one {v N s s1 s2 o p} (h:Dky v N s o s1) (k:Dky v N s p s2):o=p/\s1=s2:=by
 unfold Dky Dkh Dkt at h k;by_cases e1:v=vGen
 ·rw [if_pos e1] at h k;exact ⟨h.1.trans k.1.symm,h.2.trans k.2.symm⟩
 rw [if_neg e1] at h k;by_cases e2:v=vRefr
 ·rw [if_pos e2] at h k;exact ⟨h.1.trans k.1.symm,h.2.trans k.2.symm⟩
 rw [if_neg e2] at h k;by_cases e3:v=vTwk
 ·rw [if_pos e3] at h k;exact ⟨h.1.trans k.1.symm,h.2.trans k.2.symm⟩
 rw [if_neg e3] at h k;by_cases e4:v=vComb
 ·rw [if_pos e4] at h k;exact ⟨h.1.trans k.1.symm,h.2.trans k.2.symm⟩
 rw [if_neg e4] at h k;by_cases e5:v=vMult
 ·rw [if_pos e5] at h k;exact ⟨h.1.trans k.1.symm,h.2.trans k.2.symm⟩
 rw [if_neg e5] at h k;by_cases e6:v=vKey
 ·rw [if_pos e6] at h k;obtain ⟨rfl,x,r,h1,rfl⟩:=h;obtain ⟨rfl,y,q,k1,rfl⟩:=k;obtain ⟨rfl,rfl⟩:=h1.one k1;exact ⟨rfl,rfl⟩
 ·rw [if_neg e6] at h k;exact ⟨h.1.trans k.1.symm,h.2.trans k.2.symm⟩
theorem Dci.one {v l G O o p} (h:Dci v l G O o) (k:Dci v l G O p):o=p:=by
 unfold Dci at h k;by_cases e1:v=vShow
 ·rw [if_pos e1] at h k;exact h.trans k.symm
 rw [if_neg e1] at h k;by_cases e2:v=vRun
 ·rw [if_pos e2] at h k;obtain ⟨r,h1,rfl⟩:=h;obtain ⟨q,k1,rfl⟩:=k;rw [h1.one k1]
 rw [if_neg e2] at h k;obtain ⟨i,r,h0,h1,rfl⟩:=h;obtain ⟨j,q,k0,k1,rfl⟩:=k;obtain rfl:=h0.one k0;rw [h1.one k1]
theorem Dac.one {T S v l o p T1 T2 S1 S2} (h:Dac T S v l o T1 S1) (k:Dac T S v l p T2 S2):o=p/\T1=T2/\S1=S2:=by
 unfold Dac at h k;by_cases e1:v=vCirc
 ·rw [if_pos e1] at h k;obtain ⟨rfl,⟨h1,rfl,rfl⟩ | ⟨h1,rfl,rfl⟩⟩:=h <;> obtain ⟨rfl,⟨k1,rfl,rfl⟩ | ⟨k1,rfl,rfl⟩⟩:=k
  ·exact ⟨rfl,rfl,rfl⟩
  ·omega
  ·omega
  ·exact ⟨rfl,rfl,rfl⟩
 rw [if_neg e1] at h k;by_cases e2:v=vDeal
 ·rw [if_pos e2] at h k;obtain ⟨rfl,rfl,rfl⟩:=h;obtain ⟨rfl,rfl,rfl⟩:=k;exact ⟨rfl,rfl,rfl⟩
 rw [if_neg e2] at h k;by_cases e3:v=vOpen
 ·rw [if_pos e3] at h k;obtain ⟨rfl,rfl,x,B,r,h1,rfl⟩:=h;obtain ⟨rfl,rfl,y,C,q,k1,rfl⟩:=k;obtain ⟨rfl,rfl,rfl⟩:=h1.one (by rw [prs_len,nba_len]) k1;exact ⟨rfl,rfl,rfl⟩
 rw [if_neg e3] at h k;by_cases e4:v=vClear
 ·rw [if_pos e4] at h k;obtain ⟨rfl,rfl,rfl⟩:=h;obtain ⟨rfl,rfl,rfl⟩:=k;exact ⟨rfl,rfl,rfl⟩
 rw [if_neg e4] at h k;by_cases e5:v=vShow\/v=vRun\/v=vWork
 ·rw [if_pos e5] at h k;obtain ⟨rfl,rfl,G,O,n,r,h1,h2⟩:=h;obtain ⟨rfl,rfl,H,Q,m,q,k1,k2⟩:=k;obtain ⟨rfl,rfl,rfl,rfl⟩:=h1.one k1;rcases h2 with ⟨h2,rfl⟩ | ⟨h2,h3⟩ <;> rcases k2 with ⟨k2,rfl⟩ | ⟨k2,k3⟩
  ·exact ⟨rfl,rfl,rfl⟩
  ·exact absurd k2 h2
  ·exact absurd h2 k2
  ·exact ⟨h3.one k3,rfl,rfl⟩
 rw [if_neg e5] at h k;by_cases e6:v=vKeys
 ·rw [if_pos e6] at h k;obtain ⟨rfl,⟨h1,rfl,rfl⟩ | ⟨h1,rfl,rfl⟩⟩:=h <;> obtain ⟨rfl,⟨k1,rfl,rfl⟩ | ⟨k1,rfl,rfl⟩⟩:=k
  ·exact ⟨rfl,rfl,rfl⟩
  ·exact absurd h1 k1
  ·exact absurd k1 h1
  ·exact ⟨rfl,rfl,rfl⟩
 rw [if_neg e6] at h k;obtain ⟨rfl,⟨h1,rfl,rfl⟩ | ⟨s,s1,h1,rfl,h2⟩⟩:=h <;> obtain ⟨rfl,⟨k1,rfl,rfl⟩ | ⟨s2,s3,k1,rfl,k2⟩⟩:=k
 ·exact ⟨rfl,rfl,rfl⟩
 ·rw [h1] at k1;cases k1
 ·rw [h1] at k1;cases k1
 ·rw [h1] at k1;obtain rfl:=Option.some.inj k1;obtain ⟨rfl,rfl⟩:=h2.one k2;exact ⟨rfl,rfl,rfl⟩
theorem Dln.one {T S v l o p T1 T2 S1 S2} (h:Dln T S v l o T1 S1) (k:Dln T S v l p T2 S2):o=p/\T1=T2/\S1=S2:=by
 rcases h with ⟨h1,rfl,rfl,rfl⟩ | ⟨h1,h2⟩ <;> rcases k with ⟨k1,rfl,rfl,rfl⟩ | ⟨k1,k2⟩
 ·exact ⟨rfl,rfl,rfl⟩
 ·exact absurd k1 h1
 ·exact absurd h1 k1
 ·exact h2.one k2
theorem Dks.one {L:List ByteArray}:∀{i:Nat} {o p T1 T2:ByteArray} {S1 S2:Option Kt},Dks L i o T1 S1->Dks L i p T2 S2->o=p/\T1=T2/\S1=S2
 | 0,_,_,_,_,_,_,h,k=>by obtain ⟨rfl,rfl,rfl⟩:=h;obtain ⟨rfl,rfl,rfl⟩:=k;exact ⟨rfl,rfl,rfl⟩
 | i+1,_,_,_,_,_,_,h,k=>by
  obtain ⟨o0,T0,S0,h0,h1⟩:=h
  obtain ⟨p0,U0,R0,k0,k1⟩:=k
  obtain ⟨rfl,rfl,rfl⟩:=h0.one k0
  rcases h1 with ⟨h1,rfl,rfl,rfl⟩ | ⟨h1,x,h2,rfl⟩ <;> rcases k1 with ⟨k1,rfl,rfl,rfl⟩ | ⟨k1,y,k2,rfl⟩
  ·exact ⟨rfl,rfl,rfl⟩
  ·exact absurd k1 h1
  ·exact absurd h1 k1
  ·obtain ⟨rfl,rfl,rfl⟩:=h2.one k2
   exact ⟨rfl,rfl,rfl⟩
theorem Dsk.one {s o p} (h:Dsk s o) (k:Dsk s p):o=p:=by
 rcases h with ⟨h1,rfl⟩ | ⟨h1,T,S,h2⟩ <;> rcases k with ⟨k1,rfl⟩ | ⟨k1,U,R,k2⟩
 ·rfl
 ·exact absurd h1 k1
 ·exact absurd k1 h1
 ·exact (h2.one k2).1
theorem or_to {a b c:Prop} (h:a\/b) (f:b->c):a\/c:=h.elim .inl (λx=>.inr (f x))
end
section
open Crm Go.RowKit
theorem add_big {P:Program} (x y:ByteArray) (h:x.size+y.size<=9223372036854775807) (w:World):(Op.stringOp .add x y).run P w = .ok (.string (x++y)) w:=by
 rw [run_string_add_if,if_neg (by omega)]
theorem erB_size (r:Int) (h0: -9223372036854775808<=r) (h1:r<=9223372036854775807):(erB r).size<=27:=by
 have:=itb_size r h0 h1;unfold erB;rw [ByteArray.size_append];have:(⟨#[101,114,114,111,114,32]⟩:ByteArray).size=6:=rfl;omega
theorem itb_u64 {n:Int} (h0:0<=n) (h1:n<=18446744073709551615):(itb n).size<=21:=by
 obtain ⟨k,rfl⟩:∃k:Nat,n=k:=⟨n.toNat,by omega⟩;have e:(itb (k:Int)).size=(Lib.decDigits k).length:=by unfold itb;rw [Lib.itoa_nonneg];simp [ByteArray.size]
 rw [e,Lib.decDigits_length];have:=Lib.nDigits_le20 k (by omega);omega
theorem sdn_size {l:List Int} (h:∀x ∈ l,0<=x/\x<=18446744073709551615):∀k,(sdn l k).size<=22*k
 | 0=>Nat.le_refl 0
 | k+1=>by
  have ih:=sdn_size h k
  have hd:=getD_bd h k
  have hi:=itb_u64 hd.1 hd.2
  rw [sdn,ByteArray.size_append]
  split
  ·have:mt.size=0:=rfl
   omega
  ·rw [ByteArray.size_append]
   have:spB.size=1:=rfl
   omega
theorem rWrong (r:Int) (w) (h0: -9223372036854775808<=r) (h1:r<=9223372036854775807) (hT:Tabs w):
  Calls Tryz.prog 27 #[.int .i64 r] w λe w'=>e = .returned (.string (erB r))/\Below w.heap.size w w':=by
 have hz:=itb_size r h0 h1;have HE:Hid (⟨#[101,114,114,111,114,32]⟩++itb r=erB r):=rfl;obtain ⟨u,HU⟩:=nmd (itb r);rw [HU.out] at hz HE;have a1:=add_big (P:=Tryz.prog) ⟨#[101,114,114,111,114,32]⟩ u (by have:(⟨#[101,114,114,111,114,32]⟩:ByteArray).size=6:=rfl;omega);rw [HE.out] at a1;go_enter Tryz.func27,Tryz.ntmps27;go_wp2_with fail;refine (sItoa r _ h0 h1 hT).mono ?_;rintro e w1 ⟨rfl,hb⟩;rw [HU.out];go_wp2;go_ret;exact ⟨rfl,hb⟩
theorem rFine (r:Int) (w) (h0: -9223372036854775808<=r) (h1:r<=9223372036854775807) (hT:Tabs w):
  Calls Tryz.prog 85 #[.int .i64 r] w λe w'=>e = .returned (.string (fne r))/\Below w.heap.size w w':=by
 by_cases hr:r=0
 ·subst hr;have HE:Hid (fne 0=⟨#[111,107]⟩):=rfl;go_enter Tryz.func85,Tryz.ntmps85;go_wp2;go_ret;rw [HE.out];exact ⟨rfl,Below.refl _ _⟩
 ·have HE:Hid (fne r=erB r):=if_neg hr;have aa:(r != 0)=true:=by rw [bne_iff_ne];exact hr
  clear hr;go_enter Tryz.func85,Tryz.ntmps85;go_wp2_with fail;refine (rWrong r _ h0 h1 hT).mono ?_;rintro e w1 ⟨rfl,hb⟩;go_wp2;go_ret;rw [HE.out];exact ⟨rfl,hb⟩
theorem rSaid (a n c l) (r:Int) (w) (h:Rd w a n c l) (hn:n<=100000) (h0: -9223372036854775808<=r) (h1:r<=9223372036854775807) (hT:Tabs w):
  Calls Tryz.prog 30 #[.slice a n c,.int .i64 r] w λe w'=>e = .returned (.string (sad l r))/\Below w.heap.size w w':=by
 by_cases hr:r=0
 ·subst hr;have am:=h.len;have ap:=h.cap;have an:=h.max;unfold maxLen at an;have HE:Hid (sad l 0=sdn l n):=by unfold Hid sad;rw [if_pos rfl,am]
  have HZ:Hid (∀k,(sdn l k).size<=22*k):=sdn_size h.bd;go_enter Tryz.func30,Tryz.ntmps30;go_wp2;go_loopw [5,6] (λv q wr=>∃i:Nat,i<=n/\q = .int .i64 i/\v = .string (sdn l i)/\Below w.heap.size w wr) (λ_ q _=>n-(intOf q).toNat)
  case atStart=>exact ⟨0,Nat.zero_le _,rfl,rfl,Below.refl _ _⟩
  case round=>
   obtain ⟨i,aq,rfl,rfl,aa⟩:=hrel;have ak:=aa.size;by_cases hlt:i<n
   ·obtain ⟨b,o,x,rfl,al,HX,af,ag,ah⟩:=(h.below aa).one hlt;have hz:=HZ.out i;obtain ⟨T,ab⟩:=nmd (sdn l i);have hi:=itb_u64 af ag;obtain ⟨u,HU⟩:=nmd (itb x);have HN:Hid (sdn l (i+1)=(if i=0 then mt else T++spB)++u):=by unfold Hid;rw [sdn,HX.out,HU.out,ab.out]
    rw [HU.out] at hi;rw [ab.out] at hz ⊢;have ae:=hT.below aa;by_cases hi0:i=0
    ·subst hi0;have ao:Hid (T=mt):=by unfold Hid;rw [<- ab.out];rfl
     have a2:=add_big (P:=Tryz.prog) T u (by omega);rw [Nat.add_zero] at ah;have ar:0<n:=hlt;go_wp2_with fail;refine (sFormatUint x _ af ag ae).mono ?_;rintro e w5 ⟨rfl,ad⟩;rw [HU.out];have ai:=aa.trans (ad.mono ak);clear ad ae aa ah al;go_wp2;go_roundw
     case rel=>exact ⟨1,by omega,by go_num,by rw [show (1:Nat)=0+1 from rfl,HN.out,if_pos trivial,ao.out],ai⟩
     case measure=>simp [intOf];omega
    ·have au:(0:Int)<(i:Int):=by omega
     have a1:=add_big (P:=Tryz.prog) T ⟨#[32]⟩ (by have:=sp_size;omega);obtain ⟨T2,aj⟩:=nmd (T++⟨#[32]⟩);have av:T2.size<=22*i+1:=by rw [<- aj.out,ByteArray.size_append];have:=sp_size;omega
     rw [aj.out] at a1;have a2:=add_big (P:=Tryz.prog) T2 u (by omega);go_wp2_with fail;refine (sFormatUint x _ af ag ae).mono ?_;rintro e w5 ⟨rfl,ad⟩;rw [HU.out];have ai:=aa.trans (ad.mono ak);clear ad ae aa ah al;go_wp2;go_roundw
     case rel=>exact ⟨i+1,by omega,by go_num,by rw [HN.out,if_neg hi0,<- aj.out];rfl,ai⟩
     case measure=>simp [intOf];omega
   ·obtain rfl:i=n:=by omega
    have aw:¬ ((i:Int)<(i:Int)):=by omega
    obtain ⟨T,ab⟩:=nmd (sdn l i);rw [ab.out];go_wp2;go_ret;rw [HE.out,ab.out];exact ⟨rfl,aa⟩
 ·have HE:Hid (sad l r=erB r):=if_neg hr;have ax:(r != 0)=true:=by rw [bne_iff_ne];exact hr
  clear hr;go_enter Tryz.func30,Tryz.ntmps30;go_wp2_with fail;refine (rWrong r _ h0 h1 hT).mono ?_;rintro e w1 ⟨rfl,hb⟩;go_wp2;go_ret;rw [HE.out];exact ⟨rfl,hb⟩
theorem rWide (a n c l w) (h:RdI w a n c l) (hn:n<=100000) (hl:∀x ∈ l,0<=x/\x<=9999999999):
  Calls Tryz.prog 32 #[.slice a n c] w λe w'=>∃v,e = .returned v/\w'.ownsRow w.heap.size 70 1 v n (l.map (Value.int .u64))/\Below w.heap.size w w':=by
 have ah:=h.len;have ai:=h.cap;have ag:=h.max;unfold maxLen at ag;have HL:=hid hl;clear hl;go_enter Tryz.func32,Tryz.ntmps32;go_wp2;go_loopw [3,4] (λv q wr=>∃i:Nat,i<=n/\q = .int .i64 i/\wr.ownsRow w.heap.size 70 1 v i ((l.take i).map (Value.int .u64))/\Below w.heap.size w wr) (λ_ q _=>n-(intOf q).toNat)
 case atStart=>exact ⟨0,Nat.zero_le _,rfl,World.ownsRow_nil _ _ _ _,Below.refl _ _⟩
 case round=>
  obtain ⟨i,ak,rfl,aa,ab⟩:=hrel;have al:=ab.size;by_cases hlt:i<n
  ·obtain ⟨b,o,x,rfl,am,HX,an,ao,ap⟩:=(h.below ab).one hlt;have aq:0<=x/\x<=9999999999:=by
    have hm:=HL.out (l.getD i 0) (gmem (show i<l.length by omega));rw [HX.out] at hm;exact hm
   have HN:Hid (l.take i ++ [x]=l.take (i+1)):=by
    unfold Hid;rw [List.take_add_one,<- HX.out,List.getD_eq_getElem?_getD,List.getElem?_eq_getElem (show i<l.length by omega)];rfl
   obtain ⟨P,HP⟩:=nmd (l.take i);rw [HP.out] at aa HN;have aj:(i:Int)<(n:Int):=by omega
   go_wp2_with (at_builtin;refine wpList_app1 Tryz.underlying52 infoU _ rfl _ _ rfl w.heap.size _ _ P rfl aa x rfl (by omega) (by omega) ?_;intro v7 w7 ad ae;rw [HN.out] at ad;have af:=ab.trans ae;clear ae);go_roundw
   case rel=>exact ⟨i+1,by omega,by go_num,ad,af⟩
   case measure=>simp [intOf];omega
  ·obtain rfl:i=n:=by omega
   have ar:¬ ((i:Int)<(i:Int)):=by omega
   rw [List.take_of_length_le (by omega)] at aa;go_wp2;go_ret;exact ⟨_,rfl,aa,ab⟩
theorem infoStr:(Tryz.prog.info? 9).map (λi=>(i.zero,i.size,i.bytes))=some (some (.string ⟨#[]⟩),1,16):=by kernel_rfl
theorem infoStr1:(Tryz.prog.info? 9).map (·.size)=some 1:=by kernel_rfl
theorem RdT.own0 {w:World} {base n:Nat} {E:TypeId} {v:Value} {L:List ByteArray} (h:w.ownsRow base E 1 v n (strs L)) (hb:∀x ∈ L,x.size<=9223372036854775807):∃a c,v = .slice a n c/\RdT w a n c L:=by
 by_cases hn:0<n
 ·obtain ⟨g,c,rfl,_,hr⟩:=RdT.own h hn hb;exact ⟨_,_,rfl,hr⟩
 ·obtain rfl:n=0:=by omega
  have hl:L.length=0:=by have:=h.1;rw [strs_len] at this;omega
  obtain rfl:L = []:=List.eq_nil_of_length_eq_zero hl;rcases h.2 with ⟨rfl,_⟩ | ⟨g,aa,ab,rfl,_,_,h1,h2,_⟩
  ·exact ⟨none,0,rfl,rfl,Nat.le_refl _,Nat.zero_le _,λ_=>rfl,λi hi=>by omega,by simp⟩
  ·exact ⟨_,_,rfl,rfl,Nat.zero_le _,h2,by simp,λi hi=>by omega,λx hx i hi=>by omega⟩
def wdk (l:ByteArray) (k:Nat):List ByteArray:=((pcs l 32 l.size).take k).filter λx=>x.size != 0
theorem wdk_all (l:ByteArray):wdk l (pcs l 32 l.size).length=wrd l:=by unfold wdk wrd;rw [List.take_length]
theorem wdk_step (l:ByteArray) {k:Nat} (h:k<(pcs l 32 l.size).length):wdk l (k+1)=if (tx (pcs l 32 l.size) k).size=0 then wdk l k else wdk l k ++ [tx (pcs l 32 l.size) k]:=by
 unfold wdk tx;rw [List.take_add_one,List.getElem?_eq_getElem h,List.filter_append,List.getD_eq_getElem?_getD,List.getElem?_eq_getElem h,Option.getD_some];by_cases e:((pcs l 32 l.size)[k]).size=0
 ·rw [if_pos e];simp [e]
 ·rw [if_neg e];simp [e]
theorem wdk_len (l:ByteArray) (k:Nat):(wdk l k).length<=k:=by
 unfold wdk;refine Nat.le_trans (List.length_filter_le _ _) ?_;rw [List.length_take];omega
theorem wrd_len (l:ByteArray):(wrd l).length<=l.size+1:=by
 rw [<- wdk_all];have:=wdk_len l (pcs l 32 l.size).length;have:=(pcs_len l 32 l.size).2;omega
theorem wrd_size (l:ByteArray):∀x ∈ wrd l,1<=x.size/\x.size<=l.size:=λx hx=>by
 unfold wrd at hx
 obtain ⟨h1,h2⟩:=List.mem_filter.1 hx
 have h3:=pcs_size l 32 l.size x h1
 have h4:=bne_iff_ne.1 h2
 omega
theorem isE_no {r:ByteArray} (h:r.size≠0):r.toList.isEmpty=false:=by
 rw [ByteArray.toList_eq];cases hd:r.data.toList with
 | nil=>
  exfalso;apply h;have e:=congrArg List.length hd;rw [Array.length_toList] at e;exact e
 | cons a l=>rfl
theorem size_zero {x:ByteArray} (h:x.size=0):x=⟨#[]⟩:=by
 obtain ⟨d⟩:=x;congr;exact Array.eq_empty_of_size_eq_zero h
theorem rLineWords (s:ByteArray) (w) (hs:s.size<=100000):
  Calls Tryz.prog 13 #[.string s] w λe w'=>∃a c,e = .returned (.slice a (wrd s).length c)/\RdT w' a (wrd s).length c (wrd s)/\Below w.heap.size w w':=by
 go_enter Tryz.func13,Tryz.ntmps13;go_wp2_with fail;refine (rPieces s 32 _ hs (by omega) (by omega)).mono ?_;rintro e w1 ⟨v,rfl,ho,ag⟩;have ah:=pcs_len s 32 s.size;obtain ⟨g,c,rfl,_,hr⟩:=RdT.own ho (by omega) (λx hx=>by have:=pcs_size s 32 s.size x hx;omega);obtain ⟨L,HL⟩:=nmd (pcs s 32 s.size);have am:Hid (∀k,k<L.length->wdk s (k+1)=if (tx L k).size=0 then wdk s k else wdk s k ++ [tx L k]):=λk hk=>by rw [<- HL.out] at hk ⊢;exact wdk_step s hk
 have an:Hid (wdk s L.length=wrd s):=by unfold Hid;rw [<- HL.out];exact wdk_all s
 have ao:Hid (∀x ∈ wrd s,x.size<=9223372036854775807):=λx hx=>by have:=wrd_size s x hx;omega
 rw [HL.out] at hr ah ⊢;obtain ⟨n,HN⟩:=nmd L.length;rw [HN.out] at hr ah ⊢;have ay:=hr.cap;have al:=hr.max;unfold maxLen at al;have ap:=ag.size;clear ho;go_wp2;go_loopw [3,5] (λv q wr=>∃i:Nat,i<=n/\q = .int .i64 i/\wr.ownsRow w1.heap.size 9 1 v (wdk s i).length (strs (wdk s i))/\Below w1.heap.size w1 wr) (λ_ q _=>n-(intOf q).toNat)
 case atStart=>exact ⟨0,Nat.zero_le _,rfl,by unfold wdk;rw [List.take_zero];exact World.ownsRow_nil _ _ _ _,Below.refl _ _⟩
 case round=>
  obtain ⟨i,aA,rfl,aa,ab⟩:=hrel;have ai:=ab.size;by_cases hlt:i<n
  ·obtain ⟨b,o,x,eb,aB,HX,aC,aq⟩:=(hr.below ab).one hlt;simp only [Option.some.injEq,Addr.mk.injEq,and_true] at eb;obtain ⟨rfl,rfl⟩:=eb;have az:(i:Int)<(n:Int):=by omega
   rw [Nat.zero_add] at aq;have HS:=am.out i (by rw [HN.out];exact hlt);rw [HX.out] at HS;by_cases hx0:x.size=0
   ·rw [if_pos hx0] at HS;have ae:=hid HS;obtain rfl:=size_zero hx0;clear HS hx0;go_wp2;go_roundw
    case rel=>exact ⟨i+1,by omega,by go_num,by rw [ae.out];exact aa,ab⟩
    case measure=>simp [intOf];omega
   ·rw [if_neg hx0] at HS;have aj:=wdk_len s i;obtain ⟨P,HP⟩:=nmd (wdk s i);rw [HP.out] at aa aj HS;obtain ⟨p,ak⟩:=nmd P.length;rw [ak.out] at aa aj;have ae:=hid HS;have ar:Hid (strs P ++ [.string x]=strs (P ++ [x])):=by unfold Hid;simp [strs]
    have au:Hid ((P ++ [x]).length=p+1):=by unfold Hid;rw [List.length_append,ak.out];rfl
    have aD:=isE_no hx0;clear HS hx0;go_wp2_with (at_builtin;refine wpList_appV Tryz.underlying24 infoStr rfl (by omega) _ rfl _ _ rfl w1.heap.size _ _ _ rfl aa (.string x) rfl rfl (by omega) ai ?_;intro v2 w2 ad af _;rw [ar.out] at ad;have av:=ab.grown af ai (λp hp=>(aa.lt p hp).1);clear af aa ab);go_roundw
    case rel=>exact ⟨i+1,by omega,by go_num,by rw [ae.out,au.out];exact ad,av⟩
    case measure=>simp [intOf];omega
  ·obtain rfl:i=n:=by omega
   have aE:¬ ((i:Int)<(i:Int)):=by omega
   have e:wdk s i=wrd s:=by rw [<- HN.out];exact an.out
   rw [e] at aa;obtain ⟨a',c',rfl,aw⟩:=RdT.own0 aa ao.out;have ax:=ag.trans (ab.mono ap);clear e aa;go_wp2;go_ret;exact ⟨a',c',rfl,aw,ax⟩
theorem lns_last (s:ByteArray):∀x ∈ lns s,x.size<=s.size:=λx hx=>pcs_size s 10 s.size x hx
theorem RdT.tke {w a n c L} (h:RdT w a n c L) {k:Nat} (hk:k<=n):RdT w a k c (L.take k):=by
 have hl:=h.len;have hc:=h.cap;refine ⟨by simp;omega,by omega,h.max,h.nil,λi hi=>?_,λx hx i hi=>?_⟩
 ·have e:tx (L.take k) i=tx L i:=by unfold tx;simp [hi]
  rw [e];exact h.bd i (by omega)
 ·have e:tx (L.take k) i=tx L i:=by unfold tx;simp [hi]
  rw [e];exact h.cell x hx i (by omega)
theorem rTextLines (s:ByteArray) (w) (hs:s.size<=2000000):
  Calls Tryz.prog 12 #[.string s] w λe w'=>∃a c,e = .returned (.slice a (tln s).length c)/\RdT w' a (tln s).length c (tln s)/\Below w.heap.size w w':=by
 go_enter Tryz.func12,Tryz.ntmps12;go_wp2_with fail;refine (rPiecesB s 10 _ hs (by omega) (by omega)).mono ?_;rintro e w1 ⟨v,rfl,ho,ad⟩;have ae:=pcs_len s 10 s.size;obtain ⟨g,c,rfl,_,hr⟩:=RdT.own ho (by omega) (λx hx=>by have:=pcs_size s 10 s.size x hx;omega);have aa:=lns_len s;change RdT w1 _ (lns s).length c (lns s) at hr;rw [aa] at hr;obtain ⟨m,HM⟩:=nmd (lnn s);have af:=hr;rw [HM.out] at hr;have aj:=hr.cap;have ah:=hr.max;unfold maxLen at ah;obtain ⟨b,o,x,eb,ak,HX,al,ag⟩:=hr.one (show m<m+1 by omega);simp only [Option.some.injEq,Addr.mk.injEq,and_true] at eb;obtain ⟨rfl,rfl⟩:=eb;rw [Nat.zero_add] at ag;have HL:Hid ((pcs s 10 s.size).length=m+1):=by unfold Hid;rw [<- HM.out];exact aa
 rw [HL.out];have am:(0:Int)<=(m:Int):=by omega
 by_cases hx0:x=mt
 ·have HT:Hid (tln s=(lns s).take m):=by unfold Hid tln;rw [HM.out,HX.out,if_pos hx0]
  have ai:=hr.tke (show m<=m+1 by omega);have ab:Hid ((tln s).length=m):=by unfold Hid;rw [HT.out,List.length_take,aa,HM.out];omega
  have hsl:∀W,(Instr.sliceAt 24 (.slice (some ⟨g,0,none⟩) (m+1) c) none (some (.int .i64 (m:Int))) none).run Tryz.prog W = .ok (.slice (some ⟨g,0,none⟩) m c) W:=λW=>run_subh Tryz.underlying24 infoStr1 (some ⟨g,0,none⟩) (m+1) c m (λe=>by simp at e) (by omega) W;subst hx0;unfold mt at ag;clear af ho ae aa;go_wp2;go_ret;rw [ab.out,HT.out];exact ⟨_,c,rfl,ai,ad⟩
 ·have HT:Hid (tln s=lns s):=by unfold Hid tln;rw [HM.out,HX.out,if_neg hx0]
  have ab:Hid ((tln s).length=m+1):=by unfold Hid;rw [HT.out,aa,HM.out]
  have an:=isE_no (r:=x) (λe=>hx0 (size_zero e));clear af ho ae aa hx0;go_wp2;go_ret;rw [ab.out,HT.out];exact ⟨_,c,rfl,hr,ad⟩
theorem dFail (r:Int) (w) (h0: -9223372036854775808<=r) (h1:r<=9223372036854775807) (hT:Tabs w):
  Calls Tryz.prog 7 #[.int .i64 r] w λe w'=>e = .returned (.string (erB r))/\Below w.heap.size w w':=by
 have hz:=itb_size r h0 h1;have HE:Hid (⟨#[101,114,114,111,114,32]⟩++itb r=erB r):=rfl;obtain ⟨u,HU⟩:=nmd (itb r);rw [HU.out] at hz HE;have a1:=add_big (P:=Tryz.prog) ⟨#[101,114,114,111,114,32]⟩ u (by have:(⟨#[101,114,114,111,114,32]⟩:ByteArray).size=6:=rfl;omega);rw [HE.out] at a1;go_enter Tryz.func7,Tryz.ntmps7;go_wp2_with fail;refine (sItoa r _ h0 h1 hT).mono ?_;rintro e w1 ⟨rfl,hb⟩;rw [HU.out];go_wp2;go_ret;exact ⟨rfl,hb⟩
theorem dDone (r:Int) (w) (h0: -9223372036854775808<=r) (h1:r<=9223372036854775807) (hT:Tabs w):
  Calls Tryz.prog 52 #[.int .i64 r] w λe w'=>e = .returned (.string (fne r))/\Below w.heap.size w w':=by
 by_cases hr:r=0
 ·subst hr;have HE:Hid (fne 0=⟨#[111,107]⟩):=rfl;go_enter Tryz.func52,Tryz.ntmps52;go_wp2;go_ret;rw [HE.out];exact ⟨rfl,Below.refl _ _⟩
 ·have HE:Hid (fne r=erB r):=if_neg hr;have aa:(r != 0)=true:=by rw [bne_iff_ne];exact hr
  clear hr;go_enter Tryz.func52,Tryz.ntmps52;go_wp2_with fail;refine (dFail r _ h0 h1 hT).mono ?_;rintro e w1 ⟨rfl,hb⟩;go_wp2;go_ret;rw [HE.out];exact ⟨rfl,hb⟩
def dsw (i:Nat):ByteArray:=([vDeal,vOpen,vClear,vShow,vRun,vKeys,vGen,vRefr,vTwk,vComb,vMult,vKey,vDrop]:List ByteArray).getD i ⟨#[]⟩
def dsl (i:Nat):Nat:=[2,1,0,0,0,2,0,1,2,4,2,1,1].getD i 0
def dsm (i:Nat):Bool:=[true,true,false,false,true,false,true,true,false,false,true,false,false].getD i false
def dsc:List Value:=(List.range 13).flatMap λi=>[.string (dsw i),.int .i64 (dsl i:Int),.bool (dsm i)]
theorem dsc_len:dsc.length=39:=rfl
def Dsp (w:World):Prop:=∃t fr,w.heap[0]? = some (.cells dsc.toArray t fr)
theorem Dsp.below {w w'} (h:Dsp w) (hb:Below w.heap.size w w'):Dsp w':=by
 obtain ⟨t,fr,h⟩:=h;exact ⟨t,fr,by rw [hb.block _ (Array.getElem?_eq_some_iff.1 h).1];exact h⟩
theorem dsc_at {i:Nat} (hi:i<13):dsc[i*3]? = some (.string (dsw i))/\dsc[i*3+1]? = some (.int .i64 (dsl i:Int))/\dsc[i*3+2]? = some (.bool (dsm i)):=by
 have hc:i=0\/i=1\/i=2\/i=3\/i=4\/i=5\/i=6\/i=7\/i=8\/i=9\/i=10\/i=11\/i=12:=by omega
 rcases hc with rfl | rfl | rfl | rfl | rfl | rfl | rfl | rfl | rfl | rfl | rfl | rfl | rfl <;> exact ⟨rfl,rfl,rfl⟩
def Shq (v:ByteArray) (le:Nat) (mo:Bool):Prop:=(∃i,i<13/\dsw i=v/\le=dsl i/\mo=dsm i)\/((∀i,i<13->dsw i≠v)/\le=0/\mo=false)
theorem Shq.of {v le mo} (h:Shq v le mo) {j:Nat} (hj:j<13) (hv:dsw j=v) (hd:∀i,i<13->dsw i=v->i=j):le=dsl j/\mo=dsm j:=by
 rcases h with ⟨i,hi,e,rfl,rfl⟩ | ⟨hn,_,_⟩
 ·obtain rfl:=hd i hi e;exact ⟨rfl,rfl⟩
 ·exact absurd hv (hn j hj)
theorem dsw_inj:∀j,j<13->∀i,i<13->dsw i=dsw j->i=j:=by decide +kernel
theorem Shq.at {le mo} {j:Nat} (h:Shq (dsw j) le mo) (hj:j<13):le=dsl j/\mo=dsm j:=h.of hj rfl (dsw_inj j hj)
theorem Shq.no {v le mo} (h:Shq v le mo) (hn:∀i,i<13->dsw i≠v):le=0/\mo=false:=by
 rcases h with ⟨i,hi,e,_⟩ | ⟨_,h⟩
 ·exact absurd e (hn i hi)
 ·exact h
theorem infoShs:(Tryz.prog.info? 94).map (·.size)=some dsc.toArray.size:=by kernel_rfl
theorem run_shape {i:Nat} (hi:i<13) (W:World):(Instr.index 94 (.agg dsc.toArray) (.int .i64 (i:Int))).run Tryz.prog W = .ok (.agg #[.string (dsw i),.int .i64 (dsl i:Int),.bool (dsm i)]) W:=by
 have h0:0<=(i:Int)/\(i:Int)<13:=by omega
 have e:dsc.toArray.extract (i*3) (i*3+3) = #[.string (dsw i),.int .i64 (dsl i:Int),.bool (dsm i)]:=by
  have hc:i=0\/i=1\/i=2\/i=3\/i=4\/i=5\/i=6\/i=7\/i=8\/i=9\/i=10\/i=11\/i=12:=by omega
  rcases hc with rfl | rfl | rfl | rfl | rfl | rfl | rfl | rfl | rfl | rfl | rfl | rfl | rfl <;> rfl
 simp [Instr.index,run_underlying Tryz.underlying94,asIntOf,h0,part,Tryz.isAgg55,Tryz.sizeOf55,e,-List.extract_toArray];omega
def shz3:Array Value:=#[.string ⟨#[]⟩,.int .i64 0,.bool false]
theorem tl_no2 {x y:ByteArray} (h:x≠y):(x.toList==y.toList)=false:=by
 rw [beq_eq_false_iff_ne];intro e;apply h;rw [ByteArray.toList_eq,ByteArray.toList_eq] at e;apply ByteArray.ext;exact Array.ext' e
theorem box3 {w:World} {g:Nat} (h:w.heap[g]? = some (.cells shz3 55 (0,0))):w.cell? ⟨g,0,none⟩=some (.string ⟨#[]⟩)/\w.cell? ⟨g,1,none⟩=some (.int .i64 0)/\w.cell? ⟨g,2,none⟩=some (.bool false)/\∀i,w.frozen? ⟨g,i,none⟩=false:=
 ⟨by rw [cell_of_row w g _ _ _ (0,0) h];rfl,by rw [cell_of_row w g _ _ _ (0,0) h];rfl,by rw [cell_of_row w g _ _ _ (0,0) h];rfl,λi=>frozen_of_row w g i _ _ h⟩
theorem three_put {w:World} {g:Nat} {a b c x y z:Value} (h0:w.cell? ⟨g,0,none⟩=some a) (h1:w.cell? ⟨g,1,none⟩=some b) (h2:w.cell? ⟨g,2,none⟩=some c):
  (((w.setCell ⟨g,0,none⟩ x).setCell ⟨g,1,none⟩ y).setCell ⟨g,2,none⟩ z).cell? ⟨g,0,none⟩=some x/\(((w.setCell ⟨g,0,none⟩ x).setCell ⟨g,1,none⟩ y).setCell ⟨g,2,none⟩ z).cell? ⟨g,1,none⟩=some y/\(((w.setCell ⟨g,0,none⟩ x).setCell ⟨g,1,none⟩ y).setCell ⟨g,2,none⟩ z).cell? ⟨g,2,none⟩=some z:=by
 have k0:(w.setCell ⟨g,0,none⟩ x).cell? ⟨g,0,none⟩=some x:=World.cell?_setCell_same w _ x h0;have k1:(w.setCell ⟨g,0,none⟩ x).cell? ⟨g,1,none⟩=some b:=by rw [World.cell?_setCell_other _ _ _ _ (by simp)];exact h1
 have k2:(w.setCell ⟨g,0,none⟩ x).cell? ⟨g,2,none⟩=some c:=by rw [World.cell?_setCell_other _ _ _ _ (by simp)];exact h2
 have m0:((w.setCell ⟨g,0,none⟩ x).setCell ⟨g,1,none⟩ y).cell? ⟨g,0,none⟩=some x:=by rw [World.cell?_setCell_other _ _ _ _ (by simp)];exact k0
 have m1:((w.setCell ⟨g,0,none⟩ x).setCell ⟨g,1,none⟩ y).cell? ⟨g,1,none⟩=some y:=World.cell?_setCell_same _ _ y k1;have m2:((w.setCell ⟨g,0,none⟩ x).setCell ⟨g,1,none⟩ y).cell? ⟨g,2,none⟩=some c:=by rw [World.cell?_setCell_other _ _ _ _ (by simp)];exact k2
 exact ⟨by rw [World.cell?_setCell_other _ _ _ _ (by simp)];exact m0,by rw [World.cell?_setCell_other _ _ _ _ (by simp)];exact m1,World.cell?_setCell_same _ _ z m2⟩
theorem dShape (v w) (hD:Dsp w):
  Calls Tryz.prog 22 #[.string v] w λe w'=>∃(wd:ByteArray) (le:Nat) (mo:Bool),e = .returned (.agg #[.string wd,.int .i64 (le:Int),.bool mo])/\Shq v le mo/\Below w.heap.size w w':=by
 have am:=hD.below ((Below.refl w.heap.size w).alloc (Nat.le_refl _) (.cells #[.string ⟨#[]⟩,.int .i64 0,.bool false] 55));have aj:Below w.heap.size w (w.alloc (.cells #[.string ⟨#[]⟩,.int .i64 0,.bool false] 55)):=bal _ _;have af:(w.alloc (.cells #[.string ⟨#[]⟩,.int .i64 0,.bool false] 55)).heap[w.heap.size]? = some (.cells shz3 55 (0,0)):=heap_alloc_new w _;obtain ⟨an,fr,ad⟩:=am;clear hD;go_enter Tryz.func22,Tryz.ntmps22;go_upto_region 1 with fail;generalize w.alloc (.cells #[.string ⟨#[]⟩,.int .i64 0,.bool false] 55)=w1 at *;obtain ⟨R,HR⟩:=nmd w.heap.size;rw [HR.out] at af ⊢;obtain ⟨A,HA⟩:=nmd dsc.toArray;have ao:Hid ((Tryz.prog.info? 94).map (·.size)=some A.size):=by unfold Hid;rw [<- HA.out];exact infoShs
 have ap:Hid (∀i:Nat,i<13->∀W,(Instr.index 94 (.agg A) (.int .i64 (i:Int))).run Tryz.prog W = .ok (.agg #[.string (dsw i),.int .i64 (dsl i:Int),.bool (dsm i)]) W):=λi hi W=>by rw [<- HA.out];exact run_shape hi W
 rw [HA.out] at ad;go_wp2_with (refine wpList_load_row rfl 94 _ rfl 0 rfl an A fr _ ad Tryz.underlying94 rfl ao.out ?_);go_loopw [6] (λq wr=>∃i:Nat,i<=13/\q = .int .i64 i/\Hid (∀j,j<i->dsw j≠v)/\wr.heap[R]? = some (.cells shz3 55 (0,0))/\Below w.heap.size w wr) (λq _=>13-(intOf q).toNat)
 case atStart=>exact ⟨0,Nat.zero_le _,rfl,λj hj=>by omega,af,aj⟩
 case round=>
  clear af aj ad;obtain ⟨i,hi,rfl,HN,hR,ab⟩:=hrel;have aq:=ab.size;have ar:R<wr.heap.size:=(Array.getElem?_eq_some_iff.1 hR).1;by_cases hlt:i<13
  ·have hx:=ap.out i hlt;obtain ⟨s,HS⟩:=nmd (dsw i);obtain ⟨le,ak⟩:=nmd (dsl i);obtain ⟨mo,al⟩:=nmd (dsm i);rw [HS.out,ak.out,al.out] at hx;have aw:(i:Int)<13:=by omega
   go_upto_region 4 with fail;have ag:=ab.alloc aq (.cells #[.string s,.int .i64 le,.bool mo] 55);have aa:=heap_alloc_new wr (.cells #[.string s,.int .i64 le,.bool mo] 55);have ae:(wr.alloc (.cells #[.string s,.int .i64 le,.bool mo] 55)).heap[R]? = some (.cells shz3 55 (0,0)):=by
    rw [<- hR];exact ((Below.refl wr.heap.size wr).alloc (Nat.le_refl _) _).block R ar
   generalize wr.alloc (.cells #[.string s,.int .i64 le,.bool mo] 55)=w3 at *;have c0:w3.cell? ⟨wr.heap.size,0,none⟩=some (.string s):=by rw [cell_of_row w3 _ _ _ _ (0,0) aa];rfl
   have c1:w3.cell? ⟨wr.heap.size,1,none⟩=some (.int .i64 le):=by rw [cell_of_row w3 _ _ _ _ (0,0) aa];rfl
   have c2:w3.cell? ⟨wr.heap.size,2,none⟩=some (.bool mo):=by rw [cell_of_row w3 _ _ _ _ (0,0) aa];rfl
   have au:wr.heap.size<w3.heap.size:=(Array.getElem?_eq_some_iff.1 aa).1;obtain ⟨g,HG⟩:=nmd wr.heap.size;rw [HG.out] at aa c0 c1 c2 au ⊢;clear ab hR hx;by_cases hsv:s=v
   ·have hq:(s.toList==v.toList)=true:=by rw [hsv];simp
    have ah:Hid (Shq v le mo):=.inl ⟨i,hlt,by rw [HS.out];exact hsv,ak.out.symm,al.out.symm⟩;clear hsv;obtain ⟨r0,r1,r2,rf⟩:=box3 ae;obtain ⟨y0,y1,y2⟩:=three_put (x:=.string s) (y:=.int .i64 le) (z:=.bool mo) r0 r1 r2;have ai:Hid (Below w.heap.size w (((w3.setCell ⟨R,0,none⟩ (.string s)).setCell ⟨R,1,none⟩ (.int .i64 le)).setCell ⟨R,2,none⟩ (.bool mo))):=((ag.setCell (p:=⟨R,0,none⟩) (Nat.le_of_eq HR.out) _).setCell (p:=⟨R,1,none⟩) (Nat.le_of_eq HR.out) _).setCell (p:=⟨R,2,none⟩) (Nat.le_of_eq HR.out) _;have ax:R<w3.heap.size:=(Array.getElem?_eq_some_iff.1 ae).1;clear ag aa ae;go_wp2;exact bodyPost_ret (v:=.agg #[.string s,.int .i64 le,.bool mo]) (by simp [results,Tryz.results22,go_sem,y0,y1,y2]) rfl ⟨s,le,mo,rfl,ah.out,ai.out⟩
   ·have hq:(s.toList==v.toList)=false:=tl_no2 hsv;have av:Hid (∀j,j<i+1->dsw j≠v):=λj hj=>by
     by_cases e:j=i
     ·rw [e,HS.out];exact hsv
     ·exact HN.out j (by omega)
    clear hsv;go_wp2;go_roundw
    case rel=>exact ⟨i+1,by omega,by go_num,av,ae,ag⟩
    case measure=>simp [intOf];omega
  ·obtain rfl:i=13:=by omega
   have ah:Hid (Shq v 0 false):=.inr ⟨HN.out,rfl,rfl⟩;obtain ⟨r0,r1,r2,rf⟩:=box3 hR;obtain ⟨y0,y1,y2⟩:=three_put (x:=.string ⟨#[]⟩) (y:=.int .i64 0) (z:=.bool false) r0 r1 r2;have ai:Hid (Below w.heap.size w (((wr.setCell ⟨R,0,none⟩ (.string ⟨#[]⟩)).setCell ⟨R,1,none⟩ (.int .i64 0)).setCell ⟨R,2,none⟩ (.bool false))):=((ab.setCell (p:=⟨R,0,none⟩) (Nat.le_of_eq HR.out) _).setCell (p:=⟨R,1,none⟩) (Nat.le_of_eq HR.out) _).setCell (p:=⟨R,2,none⟩) (Nat.le_of_eq HR.out) _;clear ab hR;go_wp2;exact bodyPost_ret (v:=.agg #[.string ⟨#[]⟩,.int .i64 ((0:Nat):Int),.bool false]) (by simp [results,Tryz.results22,go_sem,y0,y1,y2]) rfl ⟨⟨#[]⟩,0,false,rfl,ah.out,ai.out⟩
def Fit3 (l:List ByteArray) (n le:Nat) (mo:Bool):Prop:=okn l n/\le<=n/\(n<=le\/mo=true)
def Rdn (l : List ByteArray) (n le : Nat) (mo : Bool) (w : World) (e : Ending) (w' : World) : Prop :=
  ((¬ Fit3 l n le mo /\ ∃ v, e = .returned (.tuple #[v, .bool false])) \/
   (Fit3 l n le mo /\ ∃ g, e = .returned (.tuple #[.slice (some ⟨g, 0, none⟩) n n, .bool true]) /\ w.heap.size <= g /\ Blk w' g (nbl l n))) /\ Below w.heap.size w w'
theorem dRead (wd:ByteArray) (le:Nat) (mo:Bool) (a n c l w) (h:RdT w a n c l) (hn:n<=100000):
  Calls Tryz.prog 23 #[.agg #[.string wd,.int .i64 (le:Int),.bool mo],.slice a n c] w (Rdn l n le mo w):=by
 have an:=h.cap;have ai:=h.max;unfold maxLen at ai;have aa:Below w.heap.size w (w.alloc (.cells #[.string wd,.int .i64 (le:Int),.bool mo] 55)):=bal _ _;have af:=heap_alloc_new w (.cells #[.string wd,.int .i64 (le:Int),.bool mo] 55);have h1:=h.below aa;clear h;go_enter Tryz.func23,Tryz.ntmps23;go_upto_region 1 with fail;generalize w.alloc (.cells #[.string wd,.int .i64 (le:Int),.bool mo] 55)=w1 at *;have c1:w1.cell? ⟨w.heap.size,1,none⟩=some (.int .i64 le):=by rw [cell_of_row w1 _ _ _ _ (0,0) af];rfl
 have c2:w1.cell? ⟨w.heap.size,2,none⟩=some (.bool mo):=by rw [cell_of_row w1 _ _ _ _ (0,0) af];rfl
 have ao:w.heap.size<w1.heap.size:=(Array.getElem?_eq_some_iff.1 af).1;clear af;by_cases hlt:n<le
 ·have aj:(n:Int)<(le:Int):=by omega
  have ae:Hid (¬ (Fit3 l n le mo)):=λe=>by have:=e.2.1;omega
  clear h1;go_wp2;go_ret2;exact ⟨.inl ⟨ae.out,_,rfl⟩,aa⟩
 have aj:¬ (n:Int)<(le:Int):=by omega
 by_cases hgt:le<n
 ·have ak:(le:Int)<(n:Int):=by omega
  cases mo with
  | false=>
   have ae:Hid (¬ (Fit3 l n le false)):=λe=>by
    rcases e.2.2 with e | e
    ·omega
    ·cases e
   clear h1;go_wp2;go_ret2;exact ⟨.inl ⟨ae.out,_,rfl⟩,aa⟩
  | true=>
   go_wp2_with fail;refine (cNumbers _ _ _ l _ h1 (by omega)).mono ?_;rintro e w2 ⟨⟨ag,rfl⟩ | ⟨ah,g,rfl,hg,hB⟩,ad⟩
   ·have ae:Hid (¬ (Fit3 l n le true)):=λe=>ag e.1;have ab:=btr aa ad;clear ag h1 ad;go_wp2;go_ret2;exact ⟨.inl ⟨ae.out,_,rfl⟩,ab⟩
   ·have HY:Hid (Fit3 l n le true):=⟨ah,by omega,.inr rfl⟩;have ab:=btr aa ad;have al:=aa.size;have HB:=hid hB;clear ah h1 ad hB;go_wp2;go_ret2;exact ⟨.inr ⟨HY.out,g,rfl,by omega,HB.out⟩,ab⟩
 ·have ak:¬ (le:Int)<(n:Int):=by omega
  have am:Hid (n<=le):=by unfold Hid;omega
  go_wp2_with fail;refine (cNumbers _ _ _ l _ h1 (by omega)).mono ?_;rintro e w2 ⟨⟨ag,rfl⟩ | ⟨ah,g,rfl,hg,hB⟩,ad⟩
  ·have ae:Hid (¬ (Fit3 l n le mo)):=λe=>ag e.1;have ab:=btr aa ad;clear ag h1 ad;go_wp2;go_ret2;exact ⟨.inl ⟨ae.out,_,rfl⟩,ab⟩
  ·have HY:Hid (Fit3 l n le mo):=⟨ah,by omega,.inl am.out⟩;have ab:=btr aa ad;have al:=aa.size;have HB:=hid hB;clear ah h1 ad hB;go_wp2;go_ret2;exact ⟨.inr ⟨HY.out,g,rfl,by omega,HB.out⟩,ab⟩
end
section
open Crm
def Alk (A B:List Gt) (N:Nat):Prop:=∀i,i<N->(gt A i).k=(gt B i).k/\(gt A i).a=(gt B i).a/\(gt A i).b=(gt B i).b/\nm (gt A i).n=nm (gt B i).n
theorem Alk.whl {A B N} (h:Alk A B N):∀i,i<=N->whl A i=whl B i
 | 0,_=>rfl
 | i+1,hi=>by
  obtain ⟨h1,h2,_,_⟩:=h i (by omega)
  show (if (gt A i).k=1 then Go.Proofs.YtljlioglpaogdacGreatDoor.whl A i ++ [(gt A i).a] else Go.Proofs.YtljlioglpaogdacGreatDoor.whl A i)=(if (gt B i).k=1 then Go.Proofs.YtljlioglpaogdacGreatDoor.whl B i ++ [(gt B i).a] else Go.Proofs.YtljlioglpaogdacGreatDoor.whl B i)
  rw [h1,h2,Alk.whl h i (by omega)]
theorem Alk.ci {A B N} (h:Alk A B N) {i:Nat} (hi:i<=N):ci A i=ci B i:=by unfold Go.Proofs.YtljlioglpaogdacGreatDoor.ci;rw [h.whl i hi]
theorem Alk.dwn {A B N} (h:Alk A B N) (n t:Nat):∀i,i<=N->dwn A n t i=dwn B n t i
 | 0,_=>rfl
 | i+1,hi=>by
  obtain ⟨h1,_,_,_⟩:=h i (by omega)
  rw [Go.Proofs.YtljlioglpaogdacGreatDoor.dwn,Go.Proofs.YtljlioglpaogdacGreatDoor.dwn,h1,Alk.dwn h n t i (by omega)]
theorem Alk.gv {A B N} (h:Alk A B N) (W:List Int) (q:Int) {i:Nat} (hi:i<N):gv W q (gt A i)=gv W q (gt B i):=by
 obtain ⟨h1,h2,h3,h4⟩:=h i hi;unfold Go.Proofs.YtljlioglpaogdacGreatDoor.gv;rw [h1,h2,h3,h4];have e:nm (W.getD (gt B i).a.toNat 0*(gt A i).n)=nm (W.getD (gt B i).a.toNat 0*(gt B i).n):=by rw [<- nm_mulr,h4,nm_mulr]
 rw [e]
theorem Alk.wv {A B N} (h:Alk A B N) (ins:List Int):∀i,i<=N->wv A ins i=wv B ins i
 | 0,_=>rfl
 | i+1,hi=>by
  rw [Go.Proofs.YtljlioglpaogdacGreatDoor.wv,Go.Proofs.YtljlioglpaogdacGreatDoor.wv,Alk.wv h ins i (by omega),h.ci (show i<=N by omega),h.gv _ _ (show i<N by omega)]
theorem Alk.wi {A B N} (h:Alk A B N) (ins:List Int) {i:Nat} (hi:i<N):wi A ins i=wi B ins i:=by
 unfold Go.Proofs.YtljlioglpaogdacGreatDoor.wi;rw [h.wv ins i (by omega),h.ci (show i<=N by omega),h.gv _ _ hi]
theorem Alk.otl {A B N m O} (h:Alk A B N) (ins:List Int) (hO:okO O N m):otl A O ins m=otl B O ins m:=by
 unfold Go.Proofs.YtljlioglpaogdacGreatDoor.otl;refine List.map_congr_left λj hj=>h.wi ins ?_;have:=hO j (List.mem_range.1 hj);omega
end
end Go.Proofs.YtljlioglpaogdacGreatDoor

/- Math PolyM PolyM2 PolyM3 GaussM GaussR -/
namespace Crm
set_option linter.unusedVariables false
set_option maxRecDepth 100000
set_option maxHeartbeats 8000000
def P:Nat:=2147483647
/- no number of 2^k from lo on divides P -/
def ck:Nat->Nat->Bool
 | 0,lo=>!(2147483647%lo==0)
 | k+1,lo=>ck k lo && ck k (lo+2 ^ k)
theorem ck_all:∀(k lo d:Nat),ck k lo=true->lo<=d->d<lo+2 ^ k->¬ 2147483647%d=0:=by
 intro k;induction k with
 | zero=>
  intro lo d h h1 h2;have e:d=lo:=by simp at h2;omega
  subst e;simpa [ck] using h
 | succ k ih=>
  intro lo d h h1 h2;simp only [ck,Bool.and_eq_true] at h;by_cases hd:d<lo+2 ^ k
  ·exact ih lo d h.1 h1 hd
  ·refine ih (lo+2 ^ k) d h.2 (by omega) ?_;have:2 ^ (k+1)=2 ^ k+2 ^ k:=by omega
   omega
theorem ck16:ck 16 2=true:=by decide +kernel
theorem prime_dvd {d:Nat} (h:d ∣ P):d=1\/d=P:=by
 obtain ⟨e,he⟩:=h;have hP:d*e=2147483647:=he.symm;by_cases h1:d=1
 ·exact Or.inl h1
 by_cases h2:e=1
 ·subst h2;right;simp at hP;exact hP
 exfalso;have ab:d≠0:=by intro h;subst h;simp at hP
 have ad:e≠0:=by intro h;subst h;simp at hP
 have key:∀x y:Nat,x*y=2147483647->2<=x->x<65538->False:=by
  intro x y aa hx ae;refine ck_all 16 2 x ck16 hx (by omega) ?_;rw [<- aa];exact Nat.mul_mod_right x y
 by_cases hd:d<65538
 ·exact key d e hP (by omega) hd
 ·by_cases hee:e<65538
  ·exact key e d (by rw [Nat.mul_comm];exact hP) (by omega) hee
  ·have:65538*65538<=d*e:=Nat.mul_le_mul (by omega) (by omega);omega
theorem cop {a:Nat} (h:¬ a%P=0):Nat.Coprime a P:=by
 have hd:=Nat.gcd_dvd_right a P;rcases prime_dvd hd with h1 | h1
 ·exact h1
 ·exfalso;apply h;have:=Nat.gcd_dvd_left a P;rw [h1] at this;exact Nat.mod_eq_zero_of_dvd this
theorem dvd_mul {a b:Nat} (h:P ∣ a*b) (ha:¬ a%P=0):P ∣ b:=
 Nat.Coprime.dvd_of_dvd_mul_left (Nat.Coprime.symm (cop ha)) h
/- binomials -/
def ch:Nat->Nat->Nat
 | _,0=>1
 | 0,_+1=>0
 | n+1,k+1=>ch n k+ch n (k+1)
theorem ch_zero (n:Nat):ch n 0=1:=by cases n <;> rfl
theorem ch_succ (n k:Nat):ch (n+1) (k+1)=ch n k+ch n (k+1):=rfl
theorem ch_big:∀(n k:Nat),n<k->ch n k=0:=by
 intro n;induction n with
 | zero=>intro k h;cases k with
  | zero=>omega
  | succ k=>rfl
 | succ n ih=>intro k h;cases k with
  | zero=>omega
  | succ k=>rw [ch_succ,ih k (by omega),ih (k+1) (by omega)]
theorem ch_self (n:Nat):ch n n=1:=by
 induction n with
 | zero=>rfl
 | succ n ih=>rw [ch_succ,ih,ch_big n (n+1) (by omega)]
theorem ch_up:∀(n k:Nat),(k+1)*ch (n+1) (k+1)=(n+1)*ch n k:=by
 intro n;induction n with
 | zero=>intro k;cases k with
  | zero=>rfl
  | succ k=>rw [ch_succ,ch_big 0 (k+1) (by omega),ch_big 0 (k+2) (by omega)];simp
 | succ n ih=>
  intro k;cases k with
  | zero=>
   have:=ih 0;rw [ch_succ,ch_zero];rw [ch_zero] at this;simp at this ⊢;rw [this];omega
  | succ k=>
   have h1:=ih k;have h2:=ih (k+1);rw [ch_succ (n+1) (k+1),Nat.mul_add,h2,Nat.add_mul (k+1) 1,h1,ch_succ n k];rw [Nat.add_mul (n+1) 1,Nat.mul_add (n+1)];omega
def bs (n a:Nat):Nat->Nat
 | 0=>0
 | m+1=>bs n a m+ch n m*a ^ m
theorem bs_succ (n a m:Nat):bs (n+1) a (m+1)=bs n a (m+1)+a*bs n a m:=by
 induction m with
 | zero=>simp [bs,ch_zero]
 | succ m ih=>
  rw [bs,ih];conv=>rhs;rw [bs]
  rw [show bs n a (m+1)=bs n a m+ch n m*a ^ m from rfl,ch_succ,Nat.add_mul,Nat.mul_add];have:a*(ch n m*a ^ m)=ch n m*a ^ (m+1):=by
   rw [Nat.pow_succ];simp [Nat.mul_comm,Nat.mul_left_comm]
  omega
theorem binom (n a:Nat):(a+1) ^ n=bs n a (n+1):=by
 induction n with
 | zero=>simp [bs,ch_zero]
 | succ n ih=>
  rw [bs_succ,Nat.pow_succ,ih,Nat.mul_add,Nat.mul_one];rw [show bs n a (n+1+1)=bs n a (n+1)+ch n (n+1)*a ^ (n+1) from rfl,ch_big n (n+1) (by omega)];rw [Nat.mul_comm a];omega
theorem ch_P {k:Nat} (h0:0<k) (h1:k<P):P ∣ ch P k:=by
 obtain ⟨j,rfl⟩:∃j,k=j+1:=⟨k-1,by omega⟩;have hu:(j+1)*ch P (j+1)=P*ch (P-1) j:=by
  have:=ch_up (P-1) j;have e:P-1+1=P:=rfl;rw [e] at this;exact this
 refine dvd_mul (a:=j+1) ⟨_,hu⟩ ?_;rw [Nat.mod_eq_of_lt h1];omega
theorem bs_P (a:Nat):∀m,m+1<=P->bs P a (m+1)%P=1:=by
 intro m;induction m with
 | zero=>intro _;simp [bs,ch_zero];rfl
 | succ m ih=>
  intro h;rw [bs,Nat.add_mod,ih (by omega)];obtain ⟨c,hc⟩:=ch_P (k:=m+1) (by omega) (by omega);rw [hc,Nat.mul_assoc,Nat.mul_mod_right];rfl
theorem fermat (a:Nat):a ^ P%P=a%P:=by
 induction a with
 | zero=>
  have:(0:Nat) ^ P=0:=Nat.zero_pow (by unfold P;omega);rw [this]
 | succ a ih=>
  rw [binom,bs,ch_self,Nat.one_mul,Nat.add_mod];have:bs P a P%P=1:=bs_P a (P-1) (Nat.le_refl _);rw [this,ih,Nat.add_comm 1,Nat.add_mod a 1];rfl
theorem fermat1 {a:Nat} (h:¬ a%P=0):a ^ (P-1)%P=1:=by
 have hf:=fermat a;have e:a ^ P=a*a ^ (P-1):=by
  have:P=(P-1)+1:=rfl;conv=>lhs;rw [this]
  rw [Nat.pow_succ,Nat.mul_comm]
 have aa:0<a ^ (P-1):=Nat.pow_pos (Nat.pos_of_ne_zero (by intro h0;subst h0;exact h (Nat.zero_mod P)));rw [e] at hf;have hd:P ∣ a*(a ^ (P-1)-1):=by
  rw [Nat.mul_sub,Nat.mul_one];have:a<=a*a ^ (P-1):=Nat.le_mul_of_pos_right a aa;exact Nat.dvd_of_mod_eq_zero (Nat.sub_mod_eq_zero_of_mod_eq hf)
 have:=dvd_mul hd h;obtain ⟨c,hc⟩:=this;have e2:a ^ (P-1)=1+P*c:=by omega
 rw [e2,Nat.add_mul_mod_self_left];rfl
/-! ### Numbers by P,as integers -/
def nm (a:Int):Int:=a%2147483647
theorem nm_bd (a:Int):0<=nm a/\nm a<=2147483646:=by unfold nm;omega
theorem nm_small {a:Int} (h0:0<=a) (h1:a<=2147483646):nm a=a:=by unfold nm;omega
theorem nm_nm (a:Int):nm (nm a)=nm a:=by unfold nm;omega
theorem nm_addl (a b:Int):nm (nm a+b)=nm (a+b):=by unfold nm;omega
theorem nm_addr (a b:Int):nm (a+nm b)=nm (a+b):=by unfold nm;omega
theorem nm_subl (a b:Int):nm (nm a-b)=nm (a-b):=by unfold nm;omega
theorem nm_subr (a b:Int):nm (a-nm b)=nm (a-b):=by unfold nm;omega
theorem nm_mull (a b:Int):nm (nm a*b)=nm (a*b):=by unfold nm;rw [Int.mul_emod,Int.emod_emod_of_dvd _ (Int.dvd_refl _),<- Int.mul_emod]
theorem nm_mulr (a b:Int):nm (a*nm b)=nm (a*b):=by rw [Int.mul_comm,nm_mull,Int.mul_comm]
theorem nm_mul_congr {a b c d:Int} (h:nm a=nm c) (g:nm b=nm d):nm (a*b)=nm (c*d):=by
 rw [<- nm_mull a b,<- nm_mulr (nm a) b,h,g,nm_mulr,nm_mull]
theorem nm_add_congr {a b c d:Int} (h:nm a=nm c) (g:nm b=nm d):nm (a+b)=nm (c+d):=by
 rw [<- nm_addl a b,<- nm_addr (nm a) b,h,g,nm_addr,nm_addl]
theorem nm_sub_congr {a b c d:Int} (h:nm a=nm c) (g:nm b=nm d):nm (a-b)=nm (c-d):=by
 rw [<- nm_subl a b,<- nm_subr (nm a) b,h,g,nm_subr,nm_subl]
theorem nm_eq_iff {a b:Int}:nm a=nm b↔nm (a-b)=0:=by unfold nm;omega
theorem nm_pow (a:Int) (n:Nat):nm (nm a ^ n)=nm (a ^ n):=by
 induction n with
 | zero=>rw [Int.pow_zero,Int.pow_zero]
 | succ n ih=>rw [Int.pow_succ,Int.pow_succ];exact nm_mul_congr ih (nm_nm a)
/- a power,behind a name -/
def pw (a:Int) (n:Nat):Int:=nm (a ^ n)
theorem pw_bd (a:Int) (n:Nat):0<=pw a n/\pw a n<=2147483646:=nm_bd _
theorem pw_zero (a:Int):pw a 0=1:=by unfold pw;rw [Int.pow_zero];rfl
theorem pw_succ (a:Int) (n:Nat):pw a (n+1)=nm (pw a n*a):=by
 unfold pw;rw [Int.pow_succ,nm_mull]
theorem pw_add (a:Int) (m n:Nat):pw a (m+n)=nm (pw a m*pw a n):=by
 unfold pw;rw [Int.pow_add,nm_mull,nm_mulr]
theorem pw_nm (a:Int) (n:Nat):pw (nm a) n=pw a n:=nm_pow a n
theorem pw_one (a:Int):pw a 1=nm a:=by unfold pw;rw [Int.pow_succ,Int.pow_zero,Int.one_mul]
theorem nm_nat (a:Nat):nm (a:Int)=((a%P:Nat):Int):=by unfold nm P;omega
theorem pw_nat (a n:Nat):pw (a:Int) n=((a ^ n%P:Nat):Int):=by
 unfold pw;rw [<- nm_nat,Int.natCast_pow]
theorem fermat_pw1 {a:Int} (h:nm a≠0):pw a 2147483646=1:=by
 obtain ⟨k,hk⟩:=Int.eq_ofNat_of_zero_le (nm_bd a).1;have h2:¬ k%P=0:=by
  intro h3;apply h;rw [<- nm_nm,hk,nm_nat,h3];rfl
 have h4:=fermat1 h2;rw [show P-1=2147483646 from rfl] at h4;rw [<- pw_nm,hk,pw_nat,h4];rfl
/- the inverse -/
def iv (a:Int):Int:=pw a 2147483645
theorem iv_bd (a:Int):0<=iv a/\iv a<=2147483646:=pw_bd _ _
theorem iv_nm (a:Int):iv (nm a)=iv a:=pw_nm _ _
theorem iv_mul {a:Int} (h:nm a≠0):nm (iv a*a)=1:=by
 have:=pw_succ a 2147483645;have e:2147483645+1=2147483646:=rfl;rw [e,fermat_pw1 h] at this;exact this.symm
theorem mul_iv {a:Int} (h:nm a≠0):nm (a*iv a)=1:=by rw [Int.mul_comm];exact iv_mul h
theorem nm_mul_zero {a b:Int} (h:nm (a*b)=0) (ha:nm a≠0):nm b=0:=by
 have h1:nm (iv a*(a*b))=0:=by rw [<- nm_mulr,h];simp [nm]
 rw [<- Int.mul_assoc,<- nm_mull,iv_mul ha,Int.one_mul] at h1;exact h1
theorem nm_cancel {a b c:Int} (h:nm (a*b)=nm (a*c)) (ha:nm a≠0):nm b=nm c:=by
 rw [nm_eq_iff] at h ⊢;rw [<- Int.mul_sub] at h;exact nm_mul_zero h ha
theorem iv_unique {a x:Int} (h:nm (x*a)=1) (h0:0<=x) (h1:x<=2147483646):x=iv a:=by
 have ha:nm a≠0:=by
  intro h2;rw [<- nm_mulr,h2,Int.mul_zero] at h;simp [nm] at h
 have hb:=iv_bd a;have:nm x=nm (iv a):=by
  refine nm_cancel (a:=a) ?_ ha;rw [Int.mul_comm,h,Int.mul_comm,iv_mul ha]
 rwa [nm_small h0 h1,nm_small hb.1 hb.2] at this
/- products bit by bit -/
theorem half (y:Int) (k:Nat):y/2 ^ k=2*(y/2 ^ (k+1))+(y/2 ^ k)%2:=by
 rw [Int.pow_succ,<- Int.ediv_ediv_of_nonneg (Int.le_of_lt (Int.pow_pos (by omega)))];omega
theorem mul_bit1 (a y:Int) (k:Nat) (h:(y/2 ^ k)%2=1) (o:Int) (ho:o=nm (a*(y/2 ^ (k+1)))):
  nm (nm (o+o)+a)=nm (a*(y/2 ^ k)):=by
 rw [nm_addl,half y k,h,ho,Int.mul_add,Int.mul_one,<- Int.mul_assoc,Int.mul_comm a 2,Int.mul_assoc];refine nm_add_congr ?_ rfl;rw [nm_addl,nm_addr];congr 1;omega
theorem mul_bit0 (a y:Int) (k:Nat) (h:(y/2 ^ k)%2=0) (o:Int) (ho:o=nm (a*(y/2 ^ (k+1)))):
  nm (o+o)=nm (a*(y/2 ^ k)):=by
 rw [half y k,h,ho,Int.add_zero,<- Int.mul_assoc,Int.mul_comm a 2,Int.mul_assoc];rw [nm_addl,nm_addr];congr 1;omega
/- powers bit by bit,from the highest -/
theorem sq_pw (s:Int) (m:Nat):pw (nm (s*s)) m=pw s (2*m):=by
 rw [pw_nm];induction m with
 | zero=>rw [Nat.mul_zero,pw_zero,pw_zero]
 | succ m ih=>
  rw [pw_succ,ih,Nat.mul_succ,pw_add s (2*m) 2];have:pw s 2=nm (s*s):=by rw [pw_succ,pw_one,nm_mull]
  rw [this,nm_mulr]
theorem low1 (p s:Int) (n:Nat) (h:n%2=1):nm (nm (p*s)*pw (nm (s*s)) (n/2))=nm (p*pw s n):=by
 rw [sq_pw,nm_mull];have e:n=2*(n/2)+1:=by omega
 conv=>rhs;rw [e]
 rw [pw_succ,nm_mulr,Int.mul_assoc,Int.mul_comm s]
theorem low0 (p s:Int) (n:Nat) (h:n%2=0):nm (p*pw (nm (s*s)) (n/2))=nm (p*pw s n):=by
 rw [sq_pw];have e:2*(n/2)=n:=by omega
 rw [e]
/- EUCLID -/
theorem eu_step {a r n x t q:Int} (h1:nm (x*a)=nm r) (h2:nm (t*a)=nm n):
  nm (nm (x-q*t)*a)=nm (r-q*n):=by
 rw [nm_mull,Int.sub_mul];refine nm_sub_congr h1 ?_;rw [Int.mul_assoc];exact nm_mul_congr rfl h2
theorem eu_gcd {r n:Int} (hr:0<=r) (hn:0<n) (h:Nat.gcd r.toNat n.toNat=1):Nat.gcd n.toNat (r-r/n*n).toNat=1:=by
 obtain ⟨R,rfl⟩:=Int.eq_ofNat_of_zero_le hr;obtain ⟨N,rfl⟩:=Int.eq_ofNat_of_zero_le (Int.le_of_lt hn);have e:((R:Int)-R/N*N).toNat=R%N:=by
  have h1:(R:Int)%N=R-R/N*N:=by rw [Int.mul_comm];exact Int.emod_def ..
  rw [<- h1];exact Int.toNat_natCast (R%N)
 rw [e];simp only [Int.toNat_natCast] at h ⊢;rw [Nat.gcd_comm,<- Nat.gcd_rec,Nat.gcd_comm];exact h
theorem eu_bd {r n:Int} (hr:0<=r) (hn:0<n):0<=r/n/\r/n<=r/\0<=r/n*n/\r/n*n<=r/\r-r/n*n<n/\0<=r-r/n*n:=by
 have h1:=Int.emod_def r n;have h2:=Int.emod_lt_of_pos r hn;have h3:=Int.emod_nonneg r (Int.ne_of_gt hn);have h4:=Int.ediv_nonneg hr (Int.le_of_lt hn);have h5:=Int.ediv_le_self n hr;have h6:=Int.mul_nonneg h4 (Int.le_of_lt hn);rw [Int.mul_comm] at h1;omega
theorem cop_int {a:Int} (h:nm a≠0):Nat.gcd (2147483647:Int).toNat (nm a).toNat=1:=by
 obtain ⟨k,hk⟩:=Int.eq_ofNat_of_zero_le (nm_bd a).1;rw [hk,Int.toNat_natCast,Nat.gcd_comm];have h3:=(nm_bd a).2;refine cop (a:=k) ?_;rw [Nat.mod_eq_of_lt (by unfold P;omega)];omega
theorem eu_end {a r x:Int} (h:Nat.gcd r.toNat (0:Int).toNat=1) (hr:0<=r) (h1:nm (x*a)=nm r) (h0:0<=x) (h2:x<=2147483646):x=iv a:=by
 have:r=1:=by
  rw [show (0:Int).toNat=0 from rfl,Nat.gcd_zero_right] at h;omega
 subst this;exact iv_unique (by rw [h1];rfl) h0 h2
def nz (xs:List Int):List Int:=xs.map nm
def tl (xs:List Int):Nat->Nat
 | 0=>0
 | n+1=>if xs.getD n 0=0 then tl xs n else n+1
def trm (xs:List Int):List Int:=xs.take (tl xs xs.length)
def nrm (xs:List Int):List Int:=trm (nz xs)
def ev:List Int->Int->Int
 | [],_=>0
 | a :: l,x=>a+x*ev l x
def tm (as bs:List Int) (k i:Nat):Int:=if i<=k then as.getD i 0*bs.getD (k-i) 0 else 0
def pc (as bs:List Int) (k:Nat):Nat->Int
 | 0=>0
 | n+1=>pc as bs k n+tm as bs k n
def cvl (as bs:List Int):List Int:=(List.range (as.length+bs.length-1)).map λk=>nm (pc as bs k as.length)
def addAt (L:List Int) (o:Nat) (B:List Int) (t:Int):Nat->List Int
 | 0=>L
 | k+1=>(addAt L o B t k).set (o+k) (nm (L.getD (o+k) 0+t*B.getD k 0))
theorem tl_zero (xs:List Int) {n:Nat} (h:xs.getD n 0=0):tl xs (n+1)=tl xs n:=by rw [tl,if_pos h]
theorem tl_last (xs:List Int) {n:Nat} (h:¬ xs.getD n 0=0):tl xs (n+1)=n+1:=by rw [tl,if_neg h]
theorem tl_le (xs:List Int):∀n,tl xs n<=n
 | 0=>Nat.le_refl _
 | n+1=>by rw [tl];split;have:=tl_le xs n;omega;omega
theorem nz_getD (xs:List Int) (i:Nat):(nz xs).getD i 0=nm (xs.getD i 0):=by
 unfold nz;by_cases h:i<xs.length
 ·simp [List.getElem?_eq_getElem h]
 ·simp [List.getElem?_eq_none (show xs.length<=i by omega)];rfl
theorem nz_len (xs:List Int):(nz xs).length=xs.length:=by simp [nz]
theorem nz_bd (xs:List Int):∀x ∈ nz xs,0<=x/\x<=18446744073709551615:=by
 intro x hx;obtain ⟨y,_,rfl⟩:=List.mem_map.1 hx;have:=nm_bd y;omega
theorem nz_bd' (xs:List Int):∀x ∈ nz xs,0<=x/\x<=2147483646:=by
 intro x hx;obtain ⟨y,_,rfl⟩:=List.mem_map.1 hx;exact nm_bd y
theorem trm_len (xs:List Int):(trm xs).length=tl xs xs.length:=by
 have:=tl_le xs xs.length;unfold trm;simp;omega
theorem nrm_len (xs:List Int):(nrm xs).length=tl (nz xs) xs.length:=by unfold nrm;rw [trm_len,nz_len]
theorem nrm_le (xs:List Int):(nrm xs).length<=xs.length:=by rw [nrm_len];exact tl_le _ _
theorem trm_mem {xs:List Int} {x:Int} (h:x ∈ trm xs):x ∈ xs:=List.mem_of_mem_take h
theorem nrm_bd (xs:List Int):∀x ∈ nrm xs,0<=x/\x<=18446744073709551615:=λx h=>nz_bd xs x (trm_mem h)
theorem nrm_bd' (xs:List Int):∀x ∈ nrm xs,0<=x/\x<=2147483646:=λx h=>nz_bd' xs x (trm_mem h)
theorem getD_set (L:List Int) (i j:Nat) (v:Int):(L.set i v).getD j 0=if i=j/\j<L.length then v else L.getD j 0:=by
 simp only [List.getD_eq_getElem?_getD,List.getElem?_set];by_cases h:i=j
 ·subst h;by_cases hl:i<L.length
  ·simp [hl]
  ·simp [hl]
 ·simp [h]
theorem addAt_len (L:List Int) (o:Nat) (B:List Int) (t:Int):∀k,(addAt L o B t k).length=L.length
 | 0=>rfl
 | k+1=>by rw [addAt,List.length_set,addAt_len L o B t k]
theorem addAt_getD (L:List Int) (o:Nat) (B:List Int) (t:Int):∀(k i:Nat),
  (addAt L o B t k).getD i 0=if o<=i/\i<o+k/\i<L.length then nm (L.getD i 0+t*B.getD (i-o) 0) else L.getD i 0
 | 0,i=>by rw [addAt,if_neg (by omega)]
 | k+1,i=>by
  rw [addAt,getD_set,addAt_len,addAt_getD L o B t k i]
  by_cases h:o+k=i/\i<L.length
  ·rw [if_pos h,if_pos (by omega)]
   obtain ⟨rfl,_⟩:=h
   rw [Nat.add_sub_cancel_left]
  ·rw [if_neg h]
   by_cases h2:o<=i/\i<o+k/\i<L.length
   ·rw [if_pos h2,if_pos (by omega)]
   ·rw [if_neg h2,if_neg (by omega)]
theorem bd_set {L:List Int} (h:∀x ∈ L,0<=x/\x<=18446744073709551615) (i:Nat) {v:Int} (hv:0<=v/\v<=18446744073709551615):∀x ∈ L.set i v,0<=x/\x<=18446744073709551615:=by
 intro x hx;rcases List.mem_or_eq_of_mem_set hx with h1 | h1
 ·exact h x h1
 ·rw [h1];exact hv
theorem addAt_bd {L:List Int} (h:∀x ∈ L,0<=x/\x<=18446744073709551615) (o:Nat) (B:List Int) (t:Int):∀k,∀x ∈ addAt L o B t k,0<=x/\x<=18446744073709551615
 | 0=>h
 | k+1=>by
  rw [addAt]
  exact bd_set (addAt_bd h o B t k) _ (by have:=nm_bd (L.getD (o+k) 0+t*B.getD k 0);omega)
theorem ev_snoc:∀(l:List Int) (a x:Int),ev (l ++ [a]) x=ev l x+a*x ^ l.length
 | [],a,x=>by simp [ev]
 | b :: l,a,x=>by
  rw [List.cons_append,ev,ev,ev_snoc l a x,List.length_cons,Int.pow_succ,Int.mul_add]
  have:x*(a*x ^ l.length)=a*(x ^ l.length*x):=by rw [Int.mul_comm x,Int.mul_assoc]
  omega
theorem ev_take (xs:List Int) (x:Int) {k:Nat} (h:k<xs.length):ev (xs.take (k+1)) x=ev (xs.take k) x+xs.getD k 0*x ^ k:=by
 rw [List.take_succ_eq_append_getElem h,ev_snoc,List.length_take,Nat.min_eq_left (by omega)];simp [List.getElem?_eq_getElem h]
theorem ev_drop (xs:List Int) (x:Int) {k:Nat} (h:k<xs.length):ev (xs.drop k) x=xs.getD k 0+x*ev (xs.drop (k+1)) x:=by
 rw [List.drop_eq_getElem_cons h,ev];simp [List.getElem?_eq_getElem h]
theorem getD_big {xs:List Int} {t:Nat} (h:xs.length<=t):xs.getD t 0=0:=by
 rw [List.getD_eq_getElem?_getD,List.getElem?_eq_none h];rfl
theorem getD_some {xs:List Int} {t:Nat} (h:t<xs.length):xs[t]? = some (xs.getD t 0):=by
 rw [List.getD_eq_getElem?_getD,List.getElem?_eq_getElem h];rfl
theorem getD_mem {xs:List Int} {t:Nat} (h:t<xs.length):xs.getD t 0 ∈ xs:=by
 rw [List.getD_eq_getElem?_getD,List.getElem?_eq_getElem h];exact List.getElem_mem h
theorem list_ext {xs ys:List Int} (hl:xs.length=ys.length) (h:∀t,t<xs.length->xs.getD t 0=ys.getD t 0):xs=ys:=by
 apply List.ext_getElem?;intro t;by_cases ht:t<xs.length
 ·rw [getD_some ht,getD_some (by omega),h t ht]
 ·rw [List.getElem?_eq_none (by omega),List.getElem?_eq_none (by omega)]
theorem take_getD (xs:List Int) (n t:Nat):(xs.take n).getD t 0=if t<n then xs.getD t 0 else 0:=by
 by_cases h:t<n
 ·rw [if_pos h];simp [h]
 ·rw [if_neg h];exact getD_big (by simp;omega)
theorem tl_congr {xs ys:List Int} (h:∀t,xs.getD t 0=ys.getD t 0):∀n,tl xs n=tl ys n
 | 0=>rfl
 | n+1=>by rw [tl,tl,h n,tl_congr h n]
theorem tl_more {xs:List Int}:∀d,tl xs (xs.length+d)=tl xs xs.length
 | 0=>rfl
 | d+1=>by rw [<- Nat.add_assoc,tl,if_pos (getD_big (by omega)),tl_more d]
theorem tl_ge {xs:List Int} {n:Nat} (h:xs.length<=n):tl xs n=tl xs xs.length:=by
 have:=tl_more (xs:=xs) (n-xs.length);rwa [show xs.length+(n-xs.length)=n by omega] at this
theorem tl_top (xs:List Int):∀n,0<tl xs n->xs.getD (tl xs n-1) 0≠0
 | 0=>by simp [tl]
 | n+1=>by
  rw [tl]
  split
  ·exact tl_top xs n
  ·intro _;simpa using ‹_›
theorem tl_above (xs:List Int):∀n t,tl xs n<=t->t<n->xs.getD t 0=0
 | 0,t=>by omega
 | n+1,t=>by
  rw [tl]
  split
  ·intro h1 h2
   by_cases ht:t=n
   ·rw [ht];assumption
   ·exact tl_above xs n t h1 (by omega)
  ·intro h1 h2;omega
theorem trm_getD (xs:List Int) (t:Nat):(trm xs).getD t 0=xs.getD t 0:=by
 unfold trm;rw [take_getD];split
 ·rfl
 ·by_cases h:t<xs.length
  ·rw [tl_above xs xs.length t (by omega) h]
  ·rw [getD_big (by omega)]
theorem trm_ext {xs ys:List Int} (h:∀t,xs.getD t 0=ys.getD t 0):trm xs=trm ys:=by
 have hl:(trm xs).length=(trm ys).length:=by
  rw [trm_len,trm_len,<- tl_ge (show xs.length<=max xs.length ys.length by omega),<- tl_ge (show ys.length<=max xs.length ys.length by omega),tl_congr h]
 exact list_ext hl λt _=>by rw [trm_getD,trm_getD,h]
theorem nrm_getD (xs:List Int) (t:Nat):(nrm xs).getD t 0=nm (xs.getD t 0):=by unfold nrm;rw [trm_getD,nz_getD]
theorem nrm_ext {xs ys:List Int} (h:∀t,nm (xs.getD t 0)=nm (ys.getD t 0)):nrm xs=nrm ys:=trm_ext λt=>by rw [nz_getD,nz_getD,h]
structure Nml (xs:List Int):Prop where
 bd:∀x ∈ xs,0<=x/\x<=2147483646
 top:0<xs.length->xs.getD (xs.length-1) 0≠0
theorem nrm_Nml (xs:List Int):Nml (nrm xs):=by
 refine ⟨nrm_bd' xs,λh=>?_⟩
 rw [nrm_getD,<- nz_getD];rw [nrm_len] at h ⊢;exact tl_top _ _ h
theorem nz_id {xs:List Int} (h:∀x ∈ xs,0<=x/\x<=2147483646):nz xs=xs:=by
 unfold nz;have:xs.map nm=xs.map id:=List.map_congr_left λx hx=>nm_small (h x hx).1 (h x hx).2;rw [this,List.map_id]
theorem trm_id {xs:List Int} (h:0<xs.length->xs.getD (xs.length-1) 0≠0):trm xs=xs:=by
 unfold trm;apply List.take_of_length_le;cases hl:xs.length with
 | zero=>omega
 | succ n=>rw [tl_last xs (by have:=h (by omega);rwa [hl] at this)];omega
theorem nrm_id {xs} (h:Nml xs):nrm xs=xs:=by unfold nrm;rw [nz_id h.bd,trm_id h.top]
theorem tl_nrm {xs} (h:Nml xs):tl (nz xs) xs.length=xs.length:=by rw [<- nrm_len,nrm_id h]
theorem bd_u64 {xs:List Int} (h:∀x ∈ xs,0<=x/\x<=2147483646):∀x ∈ xs,0<=x/\x<=18446744073709551615:=λx hx=>by have:=h x hx;omega
theorem getD_bd' {xs:List Int} (h:∀x ∈ xs,0<=x/\x<=2147483646) (t:Nat):0<=xs.getD t 0/\xs.getD t 0<=2147483646:=by
 by_cases ht:t<xs.length
 ·exact h _ (getD_mem ht)
 ·rw [getD_big (by omega)];omega
theorem set_bd' {L:List Int} (h:∀x ∈ L,0<=x/\x<=2147483646) (i:Nat) {v:Int} (hv:0<=v/\v<=2147483646):∀x ∈ L.set i v,0<=x/\x<=2147483646:=by
 intro x hx;rcases List.mem_or_eq_of_mem_set hx with h1 | h1
 ·exact h x h1
 ·rw [h1];exact hv
theorem addAt_bd' {L:List Int} (h:∀x ∈ L,0<=x/\x<=2147483646) (o:Nat) (B:List Int) (t:Int):∀k,∀x ∈ addAt L o B t k,0<=x/\x<=2147483646
 | 0=>h
 | k+1=>by rw [addAt];exact set_bd' (addAt_bd' h o B t k) _ (nm_bd _)
theorem pc_ge (ps qs:List Int) (k:Nat):∀d,pc ps qs k (ps.length+d)=pc ps qs k ps.length
 | 0=>rfl
 | d+1=>by
  show pc ps qs k (ps.length+d)+tm ps qs k (ps.length+d)=_
  rw [pc_ge ps qs k d,tm,getD_big (show ps.length<=ps.length+d by omega),Int.zero_mul]
  split <;> omega
theorem pc_far (ps qs:List Int) (k:Nat):∀n,n+qs.length<=k+1->pc ps qs k n=0
 | 0,_=>rfl
 | n+1,h=>by
  rw [pc,pc_far ps qs k n (by omega),tm]
  split
  ·rw [getD_big (show qs.length<=k-n by omega),Int.mul_zero];rfl
  ·rfl
theorem cvl_len (ps qs:List Int):(cvl ps qs).length=ps.length+qs.length-1:=by simp [cvl]
theorem cvl_getD (ps qs:List Int) (t:Nat):(cvl ps qs).getD t 0=nm (pc ps qs t ps.length):=by
 by_cases ht:t<ps.length+qs.length-1
 ·unfold cvl;simp [ht]
 ·rw [getD_big (by rw [cvl_len];omega),pc_far ps qs t ps.length (by omega)];rfl
theorem cvl_bd (ps qs:List Int):∀x ∈ cvl ps qs,0<=x/\x<=2147483646:=by
 intro x hx;obtain ⟨k,_,rfl⟩:=List.mem_map.1 hx;exact nm_bd _
theorem pc_set (ps qs:List Int) (i:Nat) (v:Int) (h0:ps.getD i 0=0) (t:Nat):∀n,n<=ps.length->pc (ps.set i v) qs t n=pc ps qs t n+if i<n/\i<=t then v*qs.getD (t-i) 0 else 0
 | 0,_=>by rw [if_neg (by omega)];rfl
 | n+1,hn=>by
  rw [pc,pc,pc_set ps qs i v h0 t n (by omega),tm,tm,getD_set]
  by_cases hi:i=n
  ·subst hi
   rw [h0,if_neg (show ¬ (i<i/\i<=t) by omega),if_pos (show i=i/\i<ps.length by omega)]
   by_cases ht:i<=t
   ·rw [if_pos ht,if_pos ht,if_pos (by omega)];omega
   ·rw [if_neg ht,if_neg ht,if_neg (by omega)]
  ·rw [if_neg (show ¬ (i=n/\n<ps.length) by omega)]
   by_cases hc:i<n/\i<=t
   ·rw [if_pos hc,if_pos (show i<n+1/\i<=t by omega),Int.add_right_comm]
   ·rw [if_neg hc,if_neg (show ¬ (i<n+1/\i<=t) by omega),Int.add_zero,Int.add_zero]
def sml (ps qs:List Int):List Int:=(List.range (max ps.length qs.length)).map λi=>nm (ps.getD i 0+qs.getD i 0)
theorem sml_len (ps qs:List Int):(sml ps qs).length=max ps.length qs.length:=by simp [sml]
theorem sml_getD (ps qs:List Int) (t:Nat):(sml ps qs).getD t 0=nm (ps.getD t 0+qs.getD t 0):=by
 by_cases ht:t<max ps.length qs.length
 ·unfold sml;simp [List.getElem?_range ht]
 ·rw [getD_big (by rw [sml_len];omega),getD_big (show ps.length<=t by omega),getD_big (show qs.length<=t by omega)];rfl
structure DivI (L D Q A:List Int) (n m q k:Nat):Prop where
 la:A.length=L.length
 lq:Q.length=q
 ba:∀x ∈ A,0<=x/\x<=2147483646
 bq:∀x ∈ Q,0<=x/\x<=2147483646
 z:∀j,j<k->Q.getD j 0=0
 eq:∀t,t<n->nm (A.getD t 0+pc Q D t q)=nm (L.getD t 0)
 hi:∀t,k+(m-1)<=t->t<n->A.getD t 0=0
 same:k=q->A=L
 top:k<q->Q.getD (q-1) 0≠0
theorem pc_zeros (D:List Int) (t:Nat) (q:Nat):∀n,pc (List.replicate q 0) D t n=0
 | 0=>rfl
 | n+1=>by
  rw [pc,pc_zeros D t q n,tm]
  have:(List.replicate q (0:Int)).getD n 0=0:=by
   by_cases h:n<q
   ·simp [h]
   ·exact getD_big (by simp;omega)
  rw [this,Int.zero_mul];split <;> rfl
theorem zeros_getD (q t:Nat):(List.replicate q (0:Int)).getD t 0=0:=by
 by_cases h:t<q
 ·simp [h]
 ·exact getD_big (by simp;omega)
theorem div_start {L D:List Int} {n m q:Nat} (hL:∀x ∈ L,0<=x/\x<=2147483646) (hq:n<=q+(m-1)):DivI L D (List.replicate q 0) L n m q q:=
 ⟨rfl,by simp,hL,λx hx=>by rw [List.eq_of_mem_replicate hx];omega,λj _=>zeros_getD q j,λt _=>by rw [pc_zeros,Int.add_zero],λt h1 h2=>by omega,λ_=>rfl,λh=>by omega⟩
theorem div_step {L D Q A n m q} {k:Nat} (h:DivI L D Q A n m q (k+1)) (hk:k<q) (hq:q+(m-1)=n) (hm:0<m) (hD:D.length=m) (hn:n<=L.length) (hd:nm (D.getD (m-1) 0)≠0) (hL:L.getD (n-1) 0≠0) {x v:Int} (hx:A.getD (k+(m-1)) 0=x) (hv:v=nm (x*iv (D.getD (m-1) 0))):
  DivI L D (Q.set k v) (addAt A k D (nm (0-v)) m) n m q k:=by
 have aa:=getD_bd' h.ba (k+(m-1));have ab:0<=v/\v<=2147483646:=by rw [hv];exact nm_bd _
 refine ⟨by rw [addAt_len,h.la],by rw [List.length_set,h.lq],addAt_bd' h.ba _ _ _ _,set_bd' h.bq _ ab,?_,?_,?_,λe=>by omega,?_⟩
 ·intro j hj;rw [getD_set,if_neg (by omega)];exact h.z j (by omega)
 ·intro t ht;rw [<- h.eq t ht,pc_set Q D k v (h.z k (by omega)) t q (by rw [h.lq];omega),addAt_getD,h.la];by_cases hr:k<=t/\t<k+m/\t<L.length
  ·rw [if_pos hr,if_pos (by omega),nm_addl];have e1:nm (A.getD t 0+nm (0-v)*D.getD (t-k) 0+(pc Q D t q+v*D.getD (t-k) 0))=nm (nm (0-v)*D.getD (t-k) 0+(A.getD t 0+(pc Q D t q+v*D.getD (t-k) 0))):=by congr 1;omega
   rw [e1,<- nm_addl,nm_mull,nm_addl,Int.sub_mul,Int.zero_mul];congr 1;omega
  ·rw [if_neg hr];by_cases hr2:k<q/\k<=t
   ·rw [if_pos hr2,getD_big (show D.length<=t-k by omega),Int.mul_zero,Int.add_zero]
   ·rw [if_neg hr2,Int.add_zero]
 ·intro t h1 h2;rw [addAt_getD,h.la];by_cases hr:k<=t/\t<k+m/\t<L.length
  ·have ht:t=k+(m-1):=by omega
   rw [if_pos hr,ht,hx,show k+(m-1)-k=m-1 by omega,<- nm_addr,nm_mull,nm_addr,Int.sub_mul,Int.zero_mul,hv];have e:nm (nm (x*iv (D.getD (m-1) 0))*D.getD (m-1) 0)=nm x:=by
    rw [nm_mull,Int.mul_assoc,<- nm_mulr,iv_mul hd,Int.mul_one]
   have e2:∀y:Int,nm y=nm x->nm (x+(0-y))=0:=λy hy=>by unfold nm at *;omega
   exact e2 _ e
  ·rw [if_neg hr];exact h.hi t (by omega) h2
 ·intro _;rw [getD_set];by_cases hkq:k+1=q
  ·rw [if_pos (by rw [h.lq];omega),hv];have hA:=h.same hkq;rw [hA] at hx;have ad:nm x≠0:=by
    rw [hA] at aa;rw [<- hx,nm_small aa.1 aa.2,show k+(m-1)=n-1 by omega];exact hL
   intro e0;have hz:=nm_mul_zero e0 ad;have:=iv_mul hd;rw [<- nm_mull,hz,Int.zero_mul] at this;exact absurd this (by decide)
  ·rw [if_neg (by omega)];exact h.top (by omega)
theorem cons_getD0 (a:Int) (l:List Int):(a :: l).getD 0 0=a:=rfl
theorem cons_getDs (a:Int) (l:List Int) (t:Nat):(a :: l).getD (t+1) 0=l.getD t 0:=rfl
theorem ev_zero:∀(q:List Int) (x:Int),(∀t,nm (q.getD t 0)=0)->nm (ev q x)=0
 | [],_,_=>rfl
 | b :: q,x,h=>by
  have h0:=h 0
  rw [cons_getD0] at h0
  have h1:=ev_zero q x (λt=>h (t+1))
  rw [ev,nm_add_congr (c:=0) (d:=x*0) h0 (nm_mul_congr rfl h1),Int.mul_zero]
  rfl
theorem ev_congr:∀(p q:List Int) (x:Int),(∀t,nm (p.getD t 0)=nm (q.getD t 0))->nm (ev p x)=nm (ev q x)
 | [],q,x,h=>by rw [ev_zero q x (λt=>(h t).symm)];rfl
 | a :: p,[],x,h=>by rw [ev_zero (a :: p) x h];rfl
 | a :: p,b :: q,x,h=>by
  rw [ev,ev]
  exact nm_add_congr (h 0) (nm_mul_congr rfl (ev_congr p q x (λt=>h (t+1))))
def adl (c:Int):List Int->List Int->List Int
 | [],q=>q.map (c * ·)
 | p,[]=>p
 | a :: p,b :: q=>(a+c*b) :: adl c p q
theorem adl_nil (c:Int) (p:List Int):adl c p []=p:=by cases p <;> rfl
theorem map_ev (c:Int) (x:Int):∀q:List Int,ev (q.map (c * ·)) x=c*ev q x
 | []=>by simp [ev]
 | b :: q=>by
  rw [List.map_cons,ev,ev,map_ev c x q,Int.mul_add,<- Int.mul_assoc,<- Int.mul_assoc,Int.mul_comm c x]
theorem map_getD (c:Int) (q:List Int) (t:Nat):(q.map (c * ·)).getD t 0=c*q.getD t 0:=by
 by_cases h:t<q.length
 ·simp [List.getElem?_eq_getElem h]
 ·rw [getD_big (by simp;omega),getD_big (by omega),Int.mul_zero]
theorem adl_ev (c:Int) (x:Int):∀p q:List Int,ev (adl c p q) x=ev p x+c*ev q x
 | [],q=>by rw [adl,map_ev,ev,Int.zero_add]
 | a :: p,[]=>by rw [adl_nil,ev,ev,Int.mul_zero,Int.add_zero]
 | a :: p,b :: q=>by
  rw [adl,ev,ev,ev,adl_ev c x p q,Int.mul_add,Int.mul_add]
  have:x*(c*ev q x)=c*(x*ev q x):=by rw [<- Int.mul_assoc,<- Int.mul_assoc,Int.mul_comm x c]
  omega
theorem adl_getD (c:Int):∀(p q:List Int) (t:Nat),(adl c p q).getD t 0=p.getD t 0+c*q.getD t 0
 | [],q,t=>by rw [adl,map_getD,getD_big (xs:=[]) (by simp),Int.zero_add]
 | a :: p,[],t=>by rw [adl_nil,getD_big (xs:=[]) (by simp),Int.mul_zero,Int.add_zero]
 | a :: p,b :: q,0=>rfl
 | a :: p,b :: q,t+1=>by rw [adl,cons_getDs,cons_getDs,cons_getDs,adl_getD c p q t]
theorem adl_len (c:Int):∀p q:List Int,(adl c p q).length=max p.length q.length
 | [],q=>by simp [adl]
 | a :: p,[]=>by simp [adl_nil]
 | a :: p,b :: q=>by rw [adl,List.length_cons,adl_len c p q,List.length_cons,List.length_cons];omega
theorem nrm_ev (p:List Int) (x:Int):nm (ev (nrm p) x)=nm (ev p x):=ev_congr _ _ _ λt=>by rw [nrm_getD,nm_nm]
theorem sml_ev (p q:List Int) (x:Int):nm (ev (sml p q) x)=nm (ev p x+ev q x):=by
 have:=ev_congr (sml p q) (adl 1 p q) x λt=>by rw [sml_getD,adl_getD,nm_nm,Int.one_mul]
 rw [this,adl_ev,Int.one_mul]
theorem addAt_ev (S Z:List Int) (t:Int) (x:Int) (h:Z.length<=S.length):nm (ev (addAt S 0 Z t Z.length) x)=nm (ev S x+t*ev Z x):=by
 have:=ev_congr (addAt S 0 Z t Z.length) (adl t S Z) x λi=>by
  rw [addAt_getD,adl_getD];by_cases hi:0<=i/\i<0+Z.length/\i<S.length
  ·rw [if_pos hi,nm_nm,Nat.sub_zero]
  ·rw [if_neg hi,getD_big (show Z.length<=i by omega),Int.mul_zero,Int.add_zero]
 rw [this,adl_ev]
theorem pc_cons (a:Int) (ps qs:List Int) (t:Nat):∀n,pc (a :: ps) qs (t+1) (n+1)=a*qs.getD (t+1) 0+pc ps qs t n
 | 0=>by
  show (0:Int)+tm (a :: ps) qs (t+1) 0=a*qs.getD (t+1) 0+0
  rw [tm,if_pos (Nat.zero_le _),cons_getD0,Nat.sub_zero]
  omega
 | n+1=>by
  show pc (a :: ps) qs (t+1) (n+1)+tm (a :: ps) qs (t+1) (n+1)=a*qs.getD (t+1) 0+(pc ps qs t n+tm ps qs t n)
  rw [pc_cons a ps qs t n]
  have:tm (a :: ps) qs (t+1) (n+1)=tm ps qs t n:=by
   rw [tm,tm,cons_getDs];by_cases h:n<=t
   ·rw [if_pos h,if_pos (by omega),show t+1-(n+1)=t-n by omega]
   ·rw [if_neg h,if_neg (by omega)]
  rw [this,Int.add_assoc]
theorem pc_cons0 (a:Int) (ps qs:List Int):∀n,pc (a :: ps) qs 0 (n+1)=a*qs.getD 0 0
 | 0=>by
  show (0:Int)+tm (a :: ps) qs 0 0=_
  rw [tm,if_pos (Nat.le_refl _),cons_getD0,Int.zero_add]
 | n+1=>by
  show pc (a :: ps) qs 0 (n+1)+tm (a :: ps) qs 0 (n+1)=_
  rw [pc_cons0 a ps qs n,tm,if_neg (by omega),Int.add_zero]
theorem cvl_ev (x:Int):∀ps qs:List Int,nm (ev (cvl ps qs) x)=nm (ev ps x*ev qs x)
 | [],qs=>by
  rw [ev_zero (cvl [] qs) x λt=>by rw [cvl_getD];rfl,ev,Int.zero_mul]
  rfl
 | a :: ps,qs=>by
  have h:=ev_congr (cvl (a :: ps) qs) (adl a (0 :: cvl ps qs) qs) x λt=>by
   rw [cvl_getD,adl_getD,List.length_cons]
   cases t with
   | zero=>rw [pc_cons0,cons_getD0,nm_nm,Int.zero_add]
   | succ t=>rw [pc_cons,cons_getDs,cvl_getD,nm_nm,nm_addl,Int.add_comm]
  have h2:=cvl_ev x ps qs
  rw [h,adl_ev,ev,Int.zero_add,ev,Int.add_mul,Int.mul_assoc x,Int.add_comm]
  exact nm_add_congr rfl (nm_mul_congr rfl h2)
def sy (c:Int):List Int->List Int
 | []=>[]
 | b :: t=>ev (b :: t) c :: sy c t
theorem sy_len (c:Int):∀t:List Int,(sy c t).length=t.length
 | []=>rfl
 | b :: t=>by rw [sy,List.length_cons,sy_len c t,List.length_cons]
theorem sy_ev (c x:Int):∀(t:List Int) (a:Int),ev (a :: t) x-ev (a :: t) c=(x-c)*ev (sy c t) x
 | [],a=>by simp [ev,sy]
 | b :: t,a=>by
  have h:=sy_ev c x t b
  show (a+x*ev (b :: t) x)-(a+c*ev (b :: t) c)=(x-c)*(ev (b :: t) c+x*ev (sy c t) x)
  generalize ev (b :: t) x=E at *
  generalize ev (b :: t) c=F at *
  generalize ev (sy c t) x=G at *
  have e:E=F+(x-c)*G:=by omega
  rw [e,Int.mul_add,Int.mul_add,Int.sub_mul,Int.sub_mul,Int.sub_mul,Int.mul_sub]
  have h1:x*(c*G)=c*(x*G):=by rw [<- Int.mul_assoc,<- Int.mul_assoc,Int.mul_comm x c]
  omega
theorem sy_zero (c:Int):∀(t:List Int) (a:Int),(∀x ∈ sy c t,nm x=0)->nm (ev (a :: t) c)=0->∀x ∈ a :: t,nm x=0
 | [],a,_,h,x,hx=>by
  rw [List.mem_singleton] at hx
  subst hx
  simpa [ev] using h
 | b :: t,a,hs,h,x,hx=>by
  rw [sy] at hs
  have h1:nm (ev (b :: t) c)=0:=hs _ (List.mem_cons_self ..)
  have h2:=sy_zero c t b (λx hx=>hs x (List.mem_cons_of_mem _ hx)) h1
  rcases List.mem_cons.1 hx with rfl | hx
  ·rw [ev,nm_add_congr (c:=x) (d:=c*0) rfl (nm_mul_congr rfl h1),Int.mul_zero,Int.add_zero] at h
   exact h
  ·exact h2 x hx
theorem roots:∀(pts l:List Int),pts.Pairwise (λa b=>nm (a-b)≠0)->(∀c ∈ pts,nm (ev l c)=0)->l.length<=pts.length->∀x ∈ l,nm x=0
 | [],l,_,_,hl,x,hx=>by
  rw [List.eq_nil_of_length_eq_zero (Nat.le_zero.1 hl)] at hx
  cases hx
 | c :: pts,[],_,_,_,x,hx=>by cases hx
 | c :: pts,a :: t,hp,hr,hl,x,hx=>by
  rw [List.pairwise_cons] at hp
  have hc:=hr c (List.mem_cons_self ..)
  have hq:=roots pts (sy c t) hp.2 (λd hd=>by
   have h1:=sy_ev c d t a
   have h2:=hr d (List.mem_cons_of_mem _ hd)
   have h3:nm ((d-c)*ev (sy c t) d)=0:=by
    rw [<- h1,nm_sub_congr (c:=0) (d:=0) h2 hc];rfl
   refine nm_mul_zero h3 λe=>hp.1 d hd ?_;unfold nm at *;omega) (by rw [sy_len];simp at hl;exact hl)
  exact sy_zero c t a hq hc x hx
theorem same_poly {p q pts:List Int} (hp:pts.Pairwise (λa b=>nm (a-b)≠0)) (h:∀c ∈ pts,nm (ev p c)=nm (ev q c)) (h1:p.length<=pts.length) (h2:q.length<=pts.length):nrm p=nrm q:=by
 have hd:=roots pts (adl (-1) p q) hp (λc hc=>by
  rw [adl_ev,Int.neg_one_mul];have:=h c hc;unfold nm at *;omega) (by rw [adl_len];omega)
 refine nrm_ext λt=>?_;have h3:nm ((adl (-1) p q).getD t 0)=0:=by
  by_cases ht:t<(adl (-1) p q).length
  ·exact hd _ (getD_mem ht)
  ·rw [getD_big (by omega)];rfl
 rw [adl_getD,Int.neg_one_mul] at h3;unfold nm at *;omega
def sm (f:Nat->Int):Nat->Int
 | 0=>0
 | n+1=>sm f n+f n
theorem sm_ncongr {f g:Nat->Int}:∀{n:Nat},(∀j,j<n->nm (f j)=nm (g j))->nm (sm f n)=nm (sm g n)
 | 0,_=>rfl
 | n+1,h=>nm_add_congr (sm_ncongr λj hj=>h j (by omega)) (h n (by omega))
theorem sm_add (f g:Nat->Int):∀n,sm (λj=>f j+g j) n=sm f n+sm g n
 | 0=>rfl
 | n+1=>by rw [sm,sm,sm,sm_add f g n];omega
theorem sm_mul (c:Int) (f:Nat->Int):∀n,sm (λj=>c*f j) n=c*sm f n
 | 0=>by rw [sm,sm,Int.mul_zero]
 | n+1=>by rw [sm,sm,sm_mul c f n,Int.mul_add]
theorem sm_zero {f:Nat->Int} {n:Nat} (h:∀j,j<n->nm (f j)=0):nm (sm f n)=0:=by
 have:∀n,sm (λ_=>0) n=0:=λn=>by induction n with | zero=>rfl | succ n ih=>rw [sm,ih];rfl
 rw [sm_ncongr (g:=λ_=>0) (λj hj=>h j hj),this];rfl
theorem sm_cut {f:Nat->Int} {m:Nat}:∀{n:Nat},m<=n->(∀j,m<=j->j<n->nm (f j)=0)->nm (sm f n)=nm (sm f m)
 | 0,hm,_=>by rw [Nat.le_zero.1 hm]
 | n+1,hm,h=>by
  by_cases e:m=n+1
  ·rw [e]
  ·rw [sm,nm_add_congr (c:=sm f m) (d:=0) (sm_cut (by omega) λj h1 h2=>h j h1 (by omega)) (h n (by omega) (by omega)),Int.add_zero]
theorem sm_swap (F:Nat->Nat->Int) (n:Nat):∀m,sm (λj=>sm (λk=>F k j) m) n=sm (λk=>sm (λj=>F k j) n) m
 | 0=>by
  have:∀n,sm (λ_=>0) n=0:=λn=>by induction n with | zero=>rfl | succ n ih=>rw [sm,ih];rfl
  exact this n
 | m+1=>by
  show sm (λj=>sm (λk=>F k j) m+F m j) n=sm (λk=>sm (λj=>F k j) n) m+sm (λj=>F m j) n
  rw [sm_add,sm_swap F n m]
def NS (M:Nat->Nat->Int) (r w:Nat) (f:Nat->Int):Prop:=∀i,i<r->nm (sm (λj=>f j*M i j) w)=0
def dep (M:Nat->Nat->Int) (r c:Nat):Prop:=∃f:Nat->Int,∀i,i<r->nm (sm (λj=>f j*M i j) c)=nm (M i c)
theorem dep_of_ns {M r w} {c:Nat} {f} (h:NS M r w f) (hc:c<w) (h0:nm (f c)≠0) (hz:∀j,c<j->j<w->nm (f j)=0):dep M r c:=by
 refine ⟨λj=>-(iv (f c))*f j,λi hi=>?_⟩
 have h1:=h i hi;rw [sm_cut (m:=c+1) (by omega) (λj h1 h2=>by rw [nm_mul_congr (c:=0) (hz j (by omega) h2) rfl,Int.zero_mul];rfl),sm] at h1;have e:nm (sm (λj=>-(iv (f c))*f j*M i j) c)=nm (-(iv (f c))*sm (λj=>f j*M i j) c):=by
  rw [<- sm_mul];exact sm_ncongr λj _=>by rw [Int.mul_assoc]
 rw [e];generalize sm (λj=>f j*M i j) c=S at *;have h2:nm S=nm (-(f c*M i c)):=by unfold nm at *;omega
 rw [nm_mul_congr rfl h2,Int.neg_mul_neg,<- Int.mul_assoc,<- nm_mull,iv_mul h0,Int.one_mul]
theorem ns_of_dep {M r} {w:Nat} {c} (h:dep M r c) (hc:c<w):∃f,NS M r w f/\nm (f c)≠0/\∀j,c<j->j<w->nm (f j)=0:=by
 obtain ⟨f,hf⟩:=h;refine ⟨λj=>if j<c then f j else if j=c then -1 else 0,λi hi=>?_,?_,λj h1 h2=>?_⟩
 ·rw [sm_cut (m:=c+1) (by omega) (λj h1 h2=>by
   show nm ((if j<c then f j else if j=c then -1 else 0)*M i j)=0;rw [if_neg (by omega),if_neg (by omega),Int.zero_mul];rfl),sm]
  have e:nm (sm (λj=>(if j<c then f j else if j=c then -1 else 0)*M i j) c)=nm (M i c):=by
   rw [<- hf i hi];exact sm_ncongr λj hj=>by rw [if_pos hj]
  have e2:(if c<c then f c else if c=c then (-1:Int) else 0) = -1:=by rw [if_neg (by omega),if_pos rfl]
  show nm (sm (λj=>(if j<c then f j else if j=c then -1 else 0)*M i j) c+(if c<c then f c else if c=c then (-1:Int) else 0)*M i c)=0;rw [e2,nm_add_congr (c:=M i c) (d:=-1*M i c) e rfl,Int.neg_one_mul,Int.add_right_neg];rfl
 ·show nm (if c<c then f c else if c=c then (-1:Int) else 0)≠0;rw [if_neg (by omega),if_pos rfl];decide
 ·show nm (if j<c then f j else if j=c then (-1:Int) else 0)=0;rw [if_neg (by omega),if_neg (by omega)];rfl
theorem dep_congr {M A:Nat->Nat->Int} {r s w:Nat} (h:∀f,NS M r w f↔NS A s w f) {c:Nat} (hc:c<w):dep M r c↔dep A s c:=by
 constructor
 ·intro hd;obtain ⟨f,h1,h2,h3⟩:=ns_of_dep hd hc;exact dep_of_ns ((h f).1 h1) hc h2 h3
 ·intro hd;obtain ⟨f,h1,h2,h3⟩:=ns_of_dep hd hc;exact dep_of_ns ((h f).2 h1) hc h2 h3
theorem getD_nat_old {l:List Nat} {b k:Nat} (h:k<l.length):(l ++ [b]).getD k 0=l.getD k 0:=by simp [List.getElem?_append_left h]
theorem getD_nat_new (l:List Nat) (b:Nat):(l ++ [b]).getD l.length 0=b:=by simp
theorem sm_pick (F:Nat->Int) (a:Nat):∀n,sm (λj=>if a=j then F j else 0) n=if a<n then F a else 0
 | 0=>by rw [sm,if_neg (by omega)]
 | n+1=>by
  rw [sm,sm_pick F a n]
  by_cases h1:a<n
  ·rw [if_pos h1,if_neg (by omega),if_pos (by omega),Int.add_zero]
  ·by_cases h2:a=n
   ·subst h2;rw [if_neg h1,if_pos rfl,if_pos (by omega),Int.zero_add]
   ·rw [if_neg h1,if_neg h2,if_neg (by omega)];rfl
theorem sm_mulr (f:Nat->Int) (x:Int) (n:Nat):sm f n*x=sm (λj=>f j*x) n:=by
 rw [Int.mul_comm,<- sm_mul];congr 1;funext j;rw [Int.mul_comm]
structure RrI (M A:Nat->Nat->Int) (r w c:Nat) (L:List Nat):Prop where
 ns:∀f,NS M r w f↔NS A r w f
 kr:L.length<=r
 lt:∀j ∈ L,j<c
 up:L.Pairwise (· < ·)
 one:∀q i,q<L.length->i<r->nm (A i (L.getD q 0))=if i=q then 1 else 0
 z:∀i j,L.length<=i->i<r->j<c->nm (A i j)=0
 lead:∀j,j<c->(j ∈ L↔¬ dep M r j)
theorem ns_congr {M A:Nat->Nat->Int} {r w:Nat} (h:∀i j,i<r->j<w->nm (A i j)=nm (M i j)) (f:Nat->Int):NS M r w f↔NS A r w f:=by
 have e:∀i,i<r->nm (sm (λj=>f j*M i j) w)=nm (sm (λj=>f j*A i j) w):=λi hi=>sm_ncongr λj hj=>nm_mul_congr rfl (h i j hi hj).symm;exact ⟨λhf i hi=>by rw [<- e i hi];exact hf i hi,λhf i hi=>by rw [e i hi];exact hf i hi⟩
theorem rr_start {M A:Nat->Nat->Int} {r w:Nat} (h:∀i j,i<r->j<w->nm (A i j)=nm (M i j)):RrI M A r w 0 []:=
 ⟨ns_congr h,Nat.zero_le _,by simp,List.Pairwise.nil,λq i hq=>by simp at hq,λi j _ _ hj=>by omega,λj hj=>by omega⟩
def tell (A:Nat->Nat->Int) (L:List Nat) (v m j:Nat):Int:=sm (λq=>if L.getD q 0=j then A q v else 0) m
theorem getN_mem {L:List Nat} {q:Nat} (h:q<L.length):L.getD q 0 ∈ L:=by
 rw [List.getD_eq_getElem?_getD,List.getElem?_eq_getElem h];exact List.getElem_mem h
theorem getD_up {L:List Nat} (h:L.Pairwise (· < ·)) {q m:Nat} (hqm:q<m) (hm:m<L.length):L.getD q 0<L.getD m 0:=by
 rw [List.pairwise_iff_getElem] at h;have:=h q m (by omega) hm hqm;rw [List.getD_eq_getElem?_getD,List.getD_eq_getElem?_getD,List.getElem?_eq_getElem (show q<L.length by omega),List.getElem?_eq_getElem hm];exact this
theorem tell_sum {M A r w c L} (h:RrI M A r w c L) (v i:Nat) (hi:i<r):nm (sm (λj=>tell A L v L.length j*A i j) c)=if i<L.length then nm (A i v) else 0:=by
 have e1:sm (λj=>tell A L v L.length j*A i j) c=sm (λq=>sm (λj=>(if L.getD q 0=j then A q v else 0)*A i j) c) L.length:=by
  rw [<- sm_swap];congr 1;funext j;unfold tell;rw [sm_mulr]
 have e2:∀q,q<L.length->nm (sm (λj=>(if L.getD q 0=j then A q v else 0)*A i j) c)=nm (if i=q then A q v else 0):=λq hq=>by
  have e3:(λj=>(if L.getD q 0=j then A q v else 0)*A i j)=λj=>if L.getD q 0=j then A q v*A i j else 0:=by
   funext j;split
   ·rfl
   ·rw [Int.zero_mul]
  rw [e3,sm_pick (λj=>A q v*A i j),if_pos (h.lt _ (getN_mem hq)),nm_mul_congr (c:=A q v) (d:=if i=q then 1 else 0) rfl (by rw [h.one q i hq hi];split <;> rfl)];split
  ·rw [Int.mul_one]
  ·rw [Int.mul_zero]
 rw [e1,sm_ncongr e2,sm_pick (λq=>A q v)];split <;> rfl
theorem rr_dep {M A r w c L} (h:RrI M A r w c L) (hc:c<w):(∀i,L.length<=i->i<r->nm (A i c)=0)↔dep M r c:=by
 rw [dep_congr h.ns hc];constructor
 ·intro hz;refine ⟨tell A L c L.length,λi hi=>?_⟩
  rw [tell_sum h c i hi];split
  ·rfl
  ·exact (hz i (by omega) hi).symm
 ·rintro ⟨f,hf⟩ i h1 h2;rw [<- hf i h2];exact sm_zero λj hj=>by rw [nm_mul_congr (d:=0) rfl (h.z i j h1 h2 hj),Int.mul_zero];rfl
theorem rr_skip {M A r w c L} (h:RrI M A r w c L) (hc:c<w) (hz:∀i,L.length<=i->i<r->nm (A i c)=0):RrI M A r w (c+1) L:=by
 have hd:=(rr_dep h hc).1 hz;refine ⟨h.ns,h.kr,λj hj=>Nat.lt_succ_of_lt (h.lt j hj),h.up,h.one,λi j h1 h2 h3=>?_,λj hj=>?_⟩
 ·by_cases e:j=c
  ·rw [e];exact hz i h1 h2
  ·exact h.z i j h1 h2 (by omega)
 ·by_cases e:j=c
  ·subst e;exact ⟨λhh=>absurd (h.lt j hh) (by omega),λhh=>absurd hd hh⟩
  ·exact h.lead j (by omega)
theorem ns_lead {A A1:Nat->Nat->Int} {r w k p:Nat} {u x:Int} (hk:k<r) (hp:p<r) (hu:nm (u*x)=1) (h1:∀i j,i<r->j<w->nm (A1 i j)=nm (if i=k then A p j*u else if i=p then A k j else A i j)) (f:Nat->Int):NS A r w f↔NS A1 r w f:=by
 have ek:nm (sm (λj=>f j*A1 k j) w)=nm (sm (λj=>f j*A p j) w*u):=by
  rw [sm_mulr];exact sm_ncongr λj hj=>by rw [nm_mul_congr (c:=f j) rfl (h1 k j hk hj),if_pos rfl,Int.mul_assoc]
 have ep:p≠k->nm (sm (λj=>f j*A1 p j) w)=nm (sm (λj=>f j*A k j) w):=λhne=>
  sm_ncongr λj hj=>by rw [nm_mul_congr (c:=f j) rfl (h1 p j hp hj),if_neg hne,if_pos rfl]
 have eo:∀i,i<r->i≠k->i≠p->nm (sm (λj=>f j*A1 i j) w)=nm (sm (λj=>f j*A i j) w):=λi hi h2 h3=>
  sm_ncongr λj hj=>by rw [nm_mul_congr (c:=f j) rfl (h1 i j hi hj),if_neg h2,if_neg h3]
 constructor
 ·intro hf i hi;by_cases e:i=k
  ·subst e;rw [ek,nm_mul_congr (c:=0) (hf p hp) rfl,Int.zero_mul];rfl
  ·by_cases e2:i=p
   ·subst e2;rw [ep e];exact hf k hk
   ·rw [eo i hi e e2];exact hf i hi
 ·intro hf i hi;by_cases e2:i=p
  ·subst e2;have h0:nm (sm (λj=>f j*A i j) w*u)=0:=by rw [<- ek];exact hf k hk
   have h3:nm (sm (λj=>f j*A i j) w*u*x)=0:=by rw [nm_mul_congr (c:=0) h0 rfl,Int.zero_mul];rfl
   rw [Int.mul_assoc,nm_mul_congr (d:=1) rfl (by rw [hu];rfl),Int.mul_one] at h3;exact h3
  ·by_cases e:i=k
   ·subst e;rw [<- ep (λh=>e2 h.symm)];exact hf p hp
   ·rw [<- eo i hi e e2];exact hf i hi
theorem ns_take {A1 A2:Nat->Nat->Int} {r w k:Nat} {t:Nat->Int} (hk:k<r) (h2:∀i j,i<r->j<w->nm (A2 i j)=nm (if i=k then A1 k j else A1 i j-t i*A1 k j)) (f:Nat->Int):NS A1 r w f↔NS A2 r w f:=by
 have ek:nm (sm (λj=>f j*A2 k j) w)=nm (sm (λj=>f j*A1 k j) w):=sm_ncongr λj hj=>by rw [nm_mul_congr (c:=f j) rfl (h2 k j hk hj),if_pos rfl]
 have eo:∀i,i<r->i≠k->nm (sm (λj=>f j*A2 i j) w)=nm (sm (λj=>f j*A1 i j) w+(-t i)*sm (λj=>f j*A1 k j) w):=λi hi hne=>by
  rw [<- sm_mul,<- sm_add];exact sm_ncongr λj hj=>by
   rw [nm_mul_congr (c:=f j) rfl (h2 i j hi hj),if_neg hne,Int.mul_sub,Int.neg_mul,<- Int.mul_assoc,Int.mul_comm (f j) (t i),Int.mul_assoc,Int.sub_eq_add_neg]
 constructor
 ·intro hf i hi;by_cases e:i=k
  ·subst e;rw [ek];exact hf i hi
  ·rw [eo i hi e,nm_add_congr (c:=0) (d:=-t i*0) (hf i hi) (nm_mul_congr rfl (hf k hk)),Int.mul_zero];rfl
 ·intro hf i hi;by_cases e:i=k
  ·subst e;rw [<- ek];exact hf i hi
  ·have aa:nm (sm (λj=>f j*A1 k j) w)=0:=by rw [<- ek];exact hf k hk
   have h0:=hf i hi;rw [eo i hi e,nm_add_congr (c:=sm (λj=>f j*A1 i j) w) (d:=-t i*0) rfl (nm_mul_congr rfl aa),Int.mul_zero,Int.add_zero] at h0;exact h0
theorem rr_lead {M A} {A1 A2:Nat->Nat->Int} {r w c} {p:Nat} {L} (h:RrI M A r w c L) (hc:c<w) (hk:L.length<=p) (hp:p<r) (hx:nm (A p c)≠0) (h1:∀i j,i<r->j<w->nm (A1 i j)=nm (if i=L.length then A p j*iv (A p c) else if i=p then A L.length j else A i j)) (h2:∀i j,i<r->j<w->nm (A2 i j)=nm (if i=L.length then A1 L.length j else A1 i j-A1 i c*A1 L.length j)):RrI M A2 r w (c+1) (L ++ [c]):=by
 have aa:L.length<r:=by omega
 have ae:∀f,NS M r w f↔NS A2 r w f:=λf=>(h.ns f).trans ((ns_lead aa hp (iv_mul hx) h1 f).trans (ns_take aa h2 f));have ad:(L ++ [c]).length=L.length+1:=by simp
 have r1:∀j,j<c->nm (A1 L.length j)=0:=λj hj=>by
  rw [h1 _ _ aa (by omega),if_pos rfl,nm_mul_congr (c:=0) (h.z p j hk hp hj) rfl,Int.zero_mul];rfl
 have r2:nm (A1 L.length c)=1:=by rw [h1 _ _ aa hc,if_pos rfl,mul_iv hx]
 have s1:∀i j,i<r->j<c->i≠L.length->nm (A2 i j)=nm (A1 i j):=λi j hi hj ab=>by
  rw [h2 i j hi (by omega),if_neg ab,Int.sub_eq_add_neg,nm_add_congr (c:=A1 i j) (d:=0) rfl ?_,Int.add_zero];have e:nm (A1 i c*A1 L.length j)=0:=by rw [nm_mul_congr (d:=0) rfl (r1 j hj),Int.mul_zero];rfl
  unfold nm at *;omega
 have s2:∀i,i<r->i≠L.length->nm (A2 i c)=0:=λi hi ab=>by
  have e:nm (A1 i c*A1 L.length c)=nm (A1 i c):=by rw [nm_mul_congr (d:=1) rfl (by rw [r2];rfl),Int.mul_one]
  rw [h2 i c hi hc,if_neg ab];unfold nm at *;omega
 have s3:∀j,j<w->nm (A2 L.length j)=nm (A1 L.length j):=λj hj=>by rw [h2 _ j aa hj,if_pos rfl]
 refine ⟨ae,by rw [ad];omega,λj hj=>?_,?_,λq i hq hi=>?_,λi j hi1 hi2 hj=>?_,λj hj=>?_⟩
 ·rw [List.mem_append,List.mem_singleton] at hj;rcases hj with hj | hj
  ·have:=h.lt j hj;omega
  ·omega
 ·rw [List.pairwise_append];refine ⟨h.up,by simp,λx hx y hy=>?_⟩
  rw [List.mem_singleton] at hy;have:=h.lt x hx;omega
 ·rw [ad] at hq;by_cases e:q<L.length
  ·rw [getD_nat_old e];have af:=h.lt _ (getN_mem e);by_cases e2:i=L.length
   ·rw [if_neg (by omega),e2,s3 _ (by omega),r1 _ af]
   ·rw [s1 i _ hi af e2,h1 i _ hi (by omega),if_neg e2];by_cases e3:i=p
    ·rw [if_pos e3,if_neg (by omega),h.one q _ e aa,if_neg (by omega)]
    ·rw [if_neg e3,h.one q i e hi]
  ·rw [show q=L.length by omega,getD_nat_new];by_cases e2:i=L.length
   ·rw [if_pos e2,e2,s3 c hc,r2]
   ·rw [if_neg e2,s2 i hi e2]
 ·rw [ad] at hi1;have ab:i≠L.length:=by omega
  by_cases e:j=c
  ·rw [e];exact s2 i hi2 ab
  ·rw [s1 i j hi2 (by omega) ab,h1 i j hi2 (by omega),if_neg ab];split
   ·exact h.z _ j (Nat.le_refl _) aa (by omega)
   ·exact h.z i j (by omega) hi2 (by omega)
 ·by_cases e:j<c
  ·rw [List.mem_append,List.mem_singleton];have:=h.lead j e;exact ⟨λhh=>this.1 (hh.resolve_right (by omega)),λhh=>.inl (this.2 hh)⟩
  ·have e2:j=c:=by omega
   subst e2;refine ⟨λ_=>?_,λ_=>by simp⟩
   rw [dep_congr ae hc];rintro ⟨f,hf⟩;have h3:=hf _ aa;rw [s3 j hc,r2,sm_zero (λi hi=>by rw [nm_mul_congr (d:=0) rfl (show nm (A2 L.length i)=nm 0 by rw [s3 i (by omega),r1 i hi];rfl),Int.mul_zero];rfl)] at h3;omega
structure Sol (M:Nat->Nat->Int) (r v:Nat) (V:List Int):Prop where
 len:V.length=v
 bd:∀x ∈ V,0<=x/\x<=2147483646
 own:∀j,j<v->V.getD j 0≠0->¬ dep M r j
 ns:NS M r (v+1) (λj=>if j<v then V.getD j 0 else -1)
theorem tell_zero {A:Nat->Nat->Int} {L:List Nat} {v m j:Nat} (h:∀q,q<m->L.getD q 0≠j):tell A L v m j=0:=by
 unfold tell;induction m with
 | zero=>rfl
 | succ m ih=>rw [sm,ih (λq hq=>h q (by omega)),if_neg (h m (by omega))];rfl
theorem tell_succ {A:Nat->Nat->Int} {L:List Nat} {v m j:Nat} (hu:L.Pairwise (· < ·)) (hm:m<L.length):tell A L v (m+1) j=if L.getD m 0=j then A m v else tell A L v m j:=by
 have:tell A L v (m+1) j=tell A L v m j+(if L.getD m 0=j then A m v else 0):=rfl;rw [this];split
 ·rename_i e;rw [tell_zero (λq hq=>by have:=getD_up hu hq hm;omega),Int.zero_add]
 ·rw [Int.add_zero]
theorem rr_sol {M A r} {v:Nat} {L} {V:List Int} (h:RrI M A r (v+1) v L) (hz:∀i,L.length<=i->i<r->nm (A i v)=0) (hl:V.length=v) (hb:∀x ∈ V,0<=x/\x<=2147483646) (hV:∀j,j<v->V.getD j 0=tell A L v L.length j):Sol M r v V:=by
 refine ⟨hl,hb,λj hj hne=>?_,?_⟩
 ·rw [<- h.lead j hj];rw [hV j hj] at hne;refine Decidable.byContradiction λhn=>hne (tell_zero λq hq e=>hn ?_);rw [<- e];exact getN_mem hq
 ·rw [h.ns];intro i hi;rw [sm];have e:nm (sm (λj=>(if j<v then V.getD j 0 else -1)*A i j) v)=nm (A i v):=by
   have e2:nm (sm (λj=>(if j<v then V.getD j 0 else -1)*A i j) v)=nm (sm (λj=>tell A L v L.length j*A i j) v):=sm_ncongr λj hj=>by
    rw [if_pos hj,hV j hj]
   rw [e2,tell_sum h v i hi];split
   ·rfl
   ·exact (hz i (by omega) hi).symm
  show nm (sm (λj=>(if j<v then V.getD j 0 else -1)*A i j) v+(if v<v then V.getD v 0 else -1)*A i v)=0;rw [if_neg (by omega),nm_add_congr (c:=A i v) (d:=-1*A i v) e rfl,Int.neg_one_mul,Int.add_right_neg];rfl
end Crm

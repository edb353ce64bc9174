/- DkC Dk0 Dk1 Dk2 Dk3 Dk4 Dk5 Dk6 DdF -/
import Derived.Test.YtljlioglpaogdacGreatDoorToTexM
import Derived.Test.YtljlioglpaogdacGreatDoorToKyO
namespace Go.Proofs.YtljlioglpaogdacGreatDoor
set_option linter.unusedVariables false
set_option maxRecDepth 100000
set_option maxHeartbeats 8000000
section
open Crm Go.RowKit
structure Bs (w0 w:World) (p b:Nat) (G:Nat->Prop) (T:ByteArray) (s:Kt):Prop where
 row:w.heap[p]? = some (.cells #[.string T,.pointer (some ⟨b,0,none⟩)] 46 (0,0))
 sto:Stx 124 w b G s
 off:¬ G p
 low:∀i,G i->w0.heap.size<=i
 lp:w0.heap.size<=p
 bel:Below w0.heap.size w0 w
theorem Bs.lt {w0 w p b G T s} (h:Bs w0 w p b G T s):p<w.heap.size:=(Array.getElem?_eq_some_iff.1 h.row).1
theorem Tch.same {w w1 w2 G} (h:Tch w w1 G) (k:Tch w1 w2 G):Tch w w2 G:=
 ⟨k.os.trans h.os,k.tape.trans h.tape,k.output.trans h.output,Nat.le_trans h.size k.size,λi hi hn=>(k.block i (Nat.lt_of_lt_of_le hi h.size) hn).trans (h.block i hi hn)⟩
theorem Bs.turn {w0 w w' p b G T s s'} (h:Bs w0 w p b G T s) (hs:Stx 124 w' b (Gnx G w w') s') (ht:Tch w w' G):Bs w0 w' p b (Gnx G w w') T s':=
 ⟨by rw [ht.block p h.lt h.off];exact h.row,hs,λe=>e.elim h.off (λe=>by have:=h.lt;omega),Gnx.ge h.low h.bel.size,h.lp,ht.below h.bel h.low h.bel.size⟩
theorem RdI.block {w} {w':World} {a n c xs} (h:RdI w a n c xs) (hk:∀x,a=some x->w'.heap[x.block]? = w.heap[x.block]?):RdI w' a n c xs:=by
 refine ⟨h.len,h.cap,h.max,h.bd,h.nil,λx hx i hi=>?_⟩
 have e:w'.cell? (x.add i)=w.cell? (x.add i):=cell_block (by rw [add_block];exact hk x hx);rw [e];exact h.cell x hx i hi
theorem RdI.tch {w w' G a n c xs} (h:RdI w a n c xs) (ht:Tch w w' G) (hn:0<n) (hG:∀x,a=some x->¬ G x.block):RdI w' a n c xs:=by
 refine h.block λx hx=>ht.block _ ?_ (hG x hx);obtain ⟨b,o,y,e,hb,_⟩:=h.one hn;rw [hx] at e;obtain rfl:=Option.some.inj e;exact hb
theorem RdI.tch0 {w w' G a n c xs} (h:RdI w a n c xs) (ht:Tch w w' G) (hG:∀x,a=some x->¬ G x.block):RdI w' a n c xs:=by
 by_cases hn:0<n
 ·exact h.tch ht hn hG
 ·exact ⟨h.len,h.cap,h.max,h.bd,h.nil,λx hx i hi=>by omega⟩
theorem RdI.sub {w a n c xs} (h:RdI w a n c xs) {lo:Nat} (hk:lo<=n):RdI w (subA a c lo) (n-lo) (c-lo) (xs.drop lo):=by
 have hl:=h.len;have hc:=h.cap;have hm:=h.max;refine ⟨by simp;omega,by omega,by omega,λx hx=>h.bd x (List.mem_of_mem_drop hx),λe=>?_,λx hx i hi=>?_⟩
 ·unfold subA at e;split at e
  ·omega
  ·cases a with
   | none=>have:=h.nil rfl;omega
   | some y=>simp at e
 ·obtain ⟨b,o,y,rfl,_,HY,_,_,aa⟩:=h.one (k:=lo+i) (by omega);unfold subA at hx;rw [if_neg (by omega),Option.map_some] at hx;obtain rfl:=Option.some.inj hx;rw [Addr.add_lit,Addr.add_lit,Nat.add_assoc,aa];congr 2;rw [<- HY.out];simp
theorem Opn.rb {l n t x r} (h:Opn l n t x r): -9223372036854775808<=r/\r<=9223372036854775807:=by
 rcases h with ⟨h1,_,_⟩ | ⟨_,⟨_,_,_,_,rfl⟩ | ⟨_,_,rfl⟩⟩
 ·have:=h1.bd;omega
 ·omega
 ·omega
theorem Kop.rb {s i x r} (h:Kop s i x r): -9223372036854775808<=r/\r<=9223372036854775807:=by
 rcases h with ⟨_,_,rfl⟩ | ⟨l,_,h⟩
 ·omega
 ·exact h.rb
theorem Kop.val2 {s x y r} (h:Kop s x y r):0<=y/\y<=2147483646:=by
 rcases h with ⟨_,rfl,_⟩ | ⟨l,_,⟨_,_,rfl⟩ | ⟨_,⟨S,_,_,rfl,_⟩ | ⟨_,rfl,_⟩⟩⟩
 ·omega
 ·omega
 ·exact nm_bd _
 ·omega
theorem kadd_rb (s:Kt) (l:List Int) (h:s.last<=1000000):0<=(kadd s l).1/\(kadd s l).1<=9223372036854775807/\-9223372036854775808<=(kadd s l).2.1/\(kadd s l).2.1<=9223372036854775807:=by
 rcases kadd_cases s l with ⟨_,e⟩ | ⟨_,e⟩ <;> (rw [e];simp only;omega)
theorem kgen_rb {s:Kt} (N:List Int) (h:s.last<=1000000):0<=(kgen s N).1/\(kgen s N).1<=9223372036854775807/\-9223372036854775808<=(kgen s N).2.1/\(kgen s N).2.1<=9223372036854775807:=by
 unfold kgen;split
 ·exact kadd_rb _ _ h
 ·simp only;omega
theorem kmix_rb {s:Kt} (g i a b c:Int) (h:s.last<=1000000):0<=(kmix s g i a b c).1/\(kmix s g i a b c).1<=9223372036854775807/\-9223372036854775808<=(kmix s g i a b c).2.1/\(kmix s g i a b c).2.1<=9223372036854775807:=by
 unfold kmix;split
 ·exact kadd_rb _ _ h
 ·simp only;omega
theorem kmul_rb {s:Kt} (g i:Int) (ds:List Int) (h:s.last<=1000000):0<=(kmul s g i ds).1/\(kmul s g i ds).1<=9223372036854775807/\-9223372036854775808<=(kmul s g i ds).2.1/\(kmul s g i ds).2.1<=9223372036854775807:=by
 unfold kmul;split
 ·split
  ·exact kadd_rb _ _ h
  ·simp only;omega
 ·simp only;omega
theorem krfr_rb (s:Kt) (i:Int) (ds:List Int): -9223372036854775808<=(krfr s i ds).1/\(krfr s i ds).1<=9223372036854775807:=by
 unfold krfr;split
 ·split <;> (simp only;omega)
 ·simp only;omega
theorem kdrp_rb (s:Kt) (i:Int): -9223372036854775808<=(kdrp s i).1/\(kdrp s i).1<=9223372036854775807:=by
 unfold kdrp;split <;> (simp only;omega)
def Kyl (w0:World) (p b:Nat) (G:Nat->Prop) (T:ByteArray) (s:Kt) (v:ByteArray) (N:List Int) (w:World) (e:Ending) (w':World):Prop:=
 ∃out s',e = .returned (.string out)/\Dky v N s out s'/\Bs w0 w' p b (Gnx G w w') T s'/\Tch w w' G
theorem infoIn1:(Tryz.prog.info? 3).map (·.size)=some 1:=by kernel_rfl
theorem rKeyH (x r:Int) (w) (hx0:0<=x) (hx1:x<=9223372036854775807) (h0: -9223372036854775808<=r) (h1:r<=9223372036854775807) (hT:Tabs w):
  Calls Tryz.prog 83 #[.int .i64 x,.int .i64 r] w λe w'=>e = .returned (.string (sad [x] r))/\Below w.heap.size w w':=by
 have aa:Below w.heap.size w (w.alloc (.cells #[.int .u64 x] 70)):=bal _ _;have r1:Rd (w.alloc (.cells #[.int .u64 x] 70)) (some ⟨w.heap.size,0,none⟩) 1 1 [x]:=(Blk.lit1 w x).whole 1 rfl (by unfold maxLen;omega) (λu hu=>by rw [List.mem_singleton.1 hu];omega);have ab:=hT.below aa;go_enter Tryz.func83,Tryz.ntmps83;go_wp2_with fail;generalize w.alloc (.cells #[.int .u64 x] 70)=wA at *;refine (rSaid _ _ _ [x] r _ r1 (by omega) h0 h1 ab).mono ?_;rintro e w1 ⟨rfl,hb⟩;have ad:=btr aa hb;go_wp2;go_ret;exact ⟨rfl,ad⟩
theorem rKeyGen (w0 w p b G T s a k c N) (h:Bs w0 w p b G T s) (r:RdI w a k c N) (hN:∀x ∈ N,0<=x/\x<=9999999999) (hk:0<=k) (hk5:k<=100000) (hG:∀x,a=some x->¬ G x.block) (hT:Tabs w0) (hlast:s.last<=1000000):
  Calls Tryz.prog 37 #[.pointer (some ⟨p,0,none⟩),.string vGen,.slice a k c] w (Kyl w0 p b G T s vGen N w):=by
 obtain ⟨v,HV⟩:=nmd vGen;have q0:(v.toList == [103,101,110])=true:=by rw [<- HV.out];decide +kernel
 rw [HV.out];have ar:=r.len;have au:=r.cap;have aj:=r.max;unfold maxLen at aj;have HN:=hid hN;clear hN;have aa:Hid (∀w',Tch w w' G->w'.cell? ⟨p,1,none⟩=some (.pointer (some ⟨b,0,none⟩))/\p<w'.heap.size/\Tabs w'/\RdI w' a k c N):=λw' ht=>by
  have hr:=r.tch0 ht hG;have hb:=ht.below h.bel h.low h.bel.size;have ak:w'.heap[p]? = _:=(ht.block p h.lt h.off).trans h.row;exact ⟨by rw [cell_of_row w' p _ _ _ (0,0) ak];rfl,Nat.lt_of_lt_of_le h.lt ht.size,hT.below hb,hr⟩
 have al:Hid (Dky vGen N s (sad [(kgen s N).1] (kgen s N).2.1) (kgen s N).2.2):=by unfold Hid Dky;rw [if_pos rfl];unfold Dkh;exact ⟨rfl,rfl⟩
 have ab:Hid (0<=(kgen s N).1/\(kgen s N).1<=9223372036854775807/\-9223372036854775808<=(kgen s N).2.1/\(kgen s N).2.1<=9223372036854775807):=kgen_rb _ hlast;have am:=h.sto;have H:=hid h;have HD:Hid (Tch w w.drew G):=Tch.of_below (Below.refl _ _).drew;have ag:=hid h.sto.2;obtain ⟨y0,y1,y2,y3⟩:=aa.out w (Tch.refl _ _);obtain ⟨z0,z1,z2,z3⟩:=aa.out w.drew HD.out;clear h am;go_enter Tryz.func37,Tryz.ntmps37;go_wp2;go_region_held3 (λw'=>w'.cell? ⟨p,1,none⟩=some (.pointer (some ⟨b,0,none⟩))) (go_keep) (first | (go_at_call 32;refine (rWide _ _ _ N _ z3 (by omega) HN.out).mono ?_;rintro e w2 ⟨v2,rfl,an,ao⟩;obtain ⟨a2,c2,rfl,ap,_⟩:=Rd.own an (λx hx=>by have:=HN.out x hx;omega);have ae:Below w.heap.size w w2:=((Below.refl _ _).drew).trans (ao.mono (Nat.le_refl _));obtain ⟨u0,u1,u2,u3⟩:=aa.out w2 (Tch.of_below ae)) | (go_at_call 84;refine (rGen b G s _ _ _ N _ (H.out.sto.same ae) ap hlast).mono ?_;intro e w3 hK;obtain ⟨rfl,ah,ai⟩:=Kde.after ae hK ag.out;obtain ⟨t0,t1,t2,t3⟩:=aa.out w3 ai) | (go_at_call 83;refine (rKeyH _ _ _ ab.out.1 ab.out.2.1 ab.out.2.2.1 ab.out.2.2.2 t2).mono ?_;rintro e w4 ⟨rfl,af⟩;have ad:=ai.same (Tch.of_below af);obtain ⟨o0,o1,o2,o3⟩:=aa.out w4 ad))
 all_goals
  have aq:Hid (Bs w0 w4 p b (Gnx G w w4) T (kgen s N).2.2):=H.out.turn ((ah.same af).mono (λi g=>g.elim .inl (λg=>.inr ⟨g.1,Nat.lt_of_lt_of_le g.2 af.size⟩)) (Gnx.lt ag.out ad.size)) ad;clear ah;go_wp2;go_ret;exact ⟨_,_,rfl,by rw [<- HV.out];exact al.out,aq.out,ad⟩
theorem rKeyRefr (w0 w p b G T s a k c N) (h:Bs w0 w p b G T s) (r:RdI w a k c N) (hN:∀x ∈ N,0<=x/\x<=9999999999) (hk:1<=k) (hk5:k<=100000) (hG:∀x,a=some x->¬ G x.block) (hT:Tabs w0) (hlast:s.last<=1000000):
  Calls Tryz.prog 37 #[.pointer (some ⟨p,0,none⟩),.string vRefr,.slice a k c] w (Kyl w0 p b G T s vRefr N w):=by
 obtain ⟨v,HV⟩:=nmd vRefr;have q0:=qf0 HV (by decide +kernel);have q1:(v.toList == [114,101,102,114,101,115,104])=true:=by rw [<- HV.out];decide +kernel
 rw [HV.out];have aE:=r.len;have aF:=r.cap;have au:=r.max;unfold maxLen at au;have HN:=hid hN;clear hN;obtain ⟨aa,ab,x0,aw,af,ak,_,_,al⟩:=r.one (show 0<k by omega);subst aw;have aH:0<=x0/\x0<=9999999999:=by
  rw [<- ak.out];exact HN.out _ (gmem (show 0<N.length by omega))
 have aI:IntKind.u64.wrap x0=x0:=by rw [IntKind.wrap_u64];omega
 have aJ:(0:Int)<(k:Int):=by omega
 have aG:0<k:=by omega
 rw [Nat.add_zero] at al;have ad:Hid (∀w',Tch w w' G->w'.cell? ⟨p,1,none⟩=some (.pointer (some ⟨b,0,none⟩))/\p<w'.heap.size/\Tabs w'/\RdI w' (some ⟨aa,ab,none⟩) k c N/\w'.cell? ⟨aa,ab,none⟩=some (.int .i64 x0)/\aa<w'.heap.size):=λw' ht=>by
  have hr:=r.tch0 ht hG;have hb:=ht.below h.bel h.low h.bel.size;have av:w'.heap[p]? = _:=(ht.block p h.lt h.off).trans h.row;have aj:∀o,w'.cell? ⟨aa,o,none⟩=w.cell? ⟨aa,o,none⟩:=λo=>cell_block (ht.block aa af (hG _ rfl));exact ⟨by rw [cell_of_row w' p _ _ _ (0,0) av];rfl,Nat.lt_of_lt_of_le h.lt ht.size,hT.below hb,hr,by rw [aj];exact al,Nat.lt_of_lt_of_le af ht.size⟩
 obtain ⟨N1,ag⟩:=nmd (N.drop 1);have ax:Hid (Dky vRefr N s (fne (krfr s x0 N1).1) (krfr s x0 N1).2):=by unfold Hid Dky;rw [if_neg (by decide),if_pos rfl];unfold Dkt;rw [ak.out,ag.out];exact ⟨rfl,rfl⟩
 have am:Hid (-9223372036854775808<=(krfr s x0 N1).1/\(krfr s x0 N1).1<=9223372036854775807):=krfr_rb _ _ _;have ay:=h.sto;have H:=hid h;have HD:Hid (Tch w w.drew G):=Tch.of_below (Below.refl _ _).drew;have an:=hid h.sto.2;obtain ⟨sa,ao⟩:=nmd (subA (some ⟨aa,ab,none⟩) c 1);have hsl:∀W,(Instr.sliceAt 63 (.slice (some ⟨aa,ab,none⟩) k c) (some (.int .i64 1)) none none).run Tryz.prog W = .ok (.slice sa (k-1) (c-1)) W:=λW=>by
  rw [<- ao.out];exact run_subl Tryz.underlying63 infoIn1 _ k c 1 rfl (by omega) W
 have az:Hid (∀w',RdI w' (some ⟨aa,ab,none⟩) k c N->RdI w' sa (k-1) (c-1) N1):=λw' hr=>by rw [<- ao.out,<- ag.out];exact hr.sub (by omega)
 have ap:Hid (∀x ∈ N1,0<=x/\x<=9999999999):=λx hx=>HN.out x (List.mem_of_mem_drop (by rw [ag.out];exact hx));have aK:(1:Int)<=(k:Int):=by omega
 obtain ⟨y0,y1,y2,y3,y4,y5⟩:=ad.out w (Tch.refl _ _);obtain ⟨z0,z1,z2,z3,z4,z5⟩:=ad.out w.drew HD.out;clear h ay;go_enter Tryz.func37,Tryz.ntmps37;go_wp2;go_region_held3 (λw'=>w'.cell? ⟨p,1,none⟩=some (.pointer (some ⟨b,0,none⟩))/\w'.cell? ⟨aa,ab,none⟩=some (.int .i64 x0)) (go_keep) (first | (go_at_call 32;refine (rWide _ _ _ N1 _ (az.out _ z3) (by omega) ap.out).mono ?_;rintro e w2 ⟨v2,rfl,aA,aB⟩;obtain ⟨a2,c2,rfl,aC,_⟩:=Rd.own aA (λx hx=>by have:=ap.out x hx;omega);have ah:Below w.heap.size w w2:=((Below.refl _ _).drew).trans (aB.mono (Nat.le_refl _));obtain ⟨u0,u1,u2,u3,u4,u5⟩:=ad.out w2 (Tch.of_below ah)) | (go_at_call 86;refine (rRefresh b G s x0 _ _ _ N1 _ (H.out.sto.same ah) ⟨by omega,by omega⟩ aC).mono ?_;intro e w3 hK;obtain ⟨rfl,aq,ar⟩:=Kte.after ah hK an.out;obtain ⟨t0,t1,t2,t3,t4,t5⟩:=ad.out w3 ar) | (go_at_call 85;refine (rFine _ _ am.out.1 am.out.2 t2).mono ?_;rintro e w4 ⟨rfl,ai⟩;have ae:=ar.same (Tch.of_below ai);obtain ⟨o0,o1,o2,o3,o4,o5⟩:=ad.out w4 ae))
 all_goals
  have aD:Hid (Bs w0 w4 p b (Gnx G w w4) T (krfr s x0 N1).2):=H.out.turn ((aq.same ai).mono (λi g=>g.elim .inl (λg=>.inr ⟨g.1,Nat.lt_of_lt_of_le g.2 ai.size⟩)) (Gnx.lt an.out ae.size)) ae;clear aq;go_wp2;go_ret;exact ⟨_,_,rfl,by rw [<- HV.out];exact ax.out,aD.out,ae⟩
theorem rKeyTwk (w0 w p b G T s a k c N) (h:Bs w0 w p b G T s) (r:RdI w a k c N) (hN:∀x ∈ N,0<=x/\x<=9999999999) (hk:k=2) (hk5:k<=100000) (hG:∀x,a=some x->¬ G x.block) (hT:Tabs w0) (hlast:s.last<=1000000):
  Calls Tryz.prog 37 #[.pointer (some ⟨p,0,none⟩),.string vTwk,.slice a k c] w (Kyl w0 p b G T s vTwk N w):=by
 obtain ⟨v,HV⟩:=nmd vTwk;have q0:=qf0 HV (by decide +kernel);have q1:=qf1 HV (by decide +kernel);have q2:(v.toList == [116,119,101,97,107])=true:=by rw [<- HV.out];decide +kernel
 rw [HV.out];have az:=r.len;have aA:=r.cap;have aq:=r.max;unfold maxLen at aq;have HN:=hid hN;clear hN;obtain ⟨aa,ab,x0,au,ah,aj,_,_,ak⟩:=r.one (show 0<k by omega);subst au;have aE:0<=x0/\x0<=9999999999:=by
  rw [<- aj.out];exact HN.out _ (gmem (show 0<N.length by omega))
 have aF:IntKind.u64.wrap x0=x0:=by rw [IntKind.wrap_u64];omega
 have aG:(0:Int)<(k:Int):=by omega
 have aB:0<k:=by omega
 obtain ⟨aH,aI,x1,al,aC,am,_,_,av⟩:=r.one (show 1<k by omega);simp only [Option.some.injEq,Addr.mk.injEq,and_true] at al;obtain ⟨rfl,rfl⟩:=al;have aJ:0<=x1/\x1<=9999999999:=by
  rw [<- am.out];exact HN.out _ (gmem (show 1<N.length by omega))
 have aK:IntKind.u64.wrap x1=x1:=by rw [IntKind.wrap_u64];omega
 have aL:(1:Int)<(k:Int):=by omega
 have aD:1<k:=by omega
 rw [Nat.add_zero] at ak;have ad:Hid (∀w',Tch w w' G->w'.cell? ⟨p,1,none⟩=some (.pointer (some ⟨b,0,none⟩))/\p<w'.heap.size/\Tabs w'/\RdI w' (some ⟨aa,ab,none⟩) k c N/\w'.cell? ⟨aa,ab,none⟩=some (.int .i64 x0)/\w'.cell? ⟨aa,ab+1,none⟩=some (.int .i64 x1)/\aa<w'.heap.size):=λw' ht=>by
  have hr:=r.tch0 ht hG;have hb:=ht.below h.bel h.low h.bel.size;have ar:w'.heap[p]? = _:=(ht.block p h.lt h.off).trans h.row;have ae:∀o,w'.cell? ⟨aa,o,none⟩=w.cell? ⟨aa,o,none⟩:=λo=>cell_block (ht.block aa ah (hG _ rfl));exact ⟨by rw [cell_of_row w' p _ _ _ (0,0) ar];rfl,Nat.lt_of_lt_of_le h.lt ht.size,hT.below hb,hr,by rw [ae];exact ak,by rw [ae];exact av,Nat.lt_of_lt_of_le ah ht.size⟩
 have aw:Hid (Dky vTwk N s (sad [(kmix s x0 x0 1 0 x1).1] (kmix s x0 x0 1 0 x1).2.1) (kmix s x0 x0 1 0 x1).2.2):=by unfold Hid Dky;rw [if_neg (by decide),if_neg (by decide),if_pos rfl];unfold Dkh;rw [aj.out,am.out];exact ⟨rfl,rfl⟩
 have af:Hid (0<=(kmix s x0 x0 1 0 x1).1/\(kmix s x0 x0 1 0 x1).1<=9223372036854775807/\-9223372036854775808<=(kmix s x0 x0 1 0 x1).2.1/\(kmix s x0 x0 1 0 x1).2.1<=9223372036854775807):=kmix_rb _ _ _ _ _ hlast;have ax:=h.sto;have H:=hid h;have HD:Hid (Tch w w.drew G):=Tch.of_below (Below.refl _ _).drew;have an:=hid h.sto.2;obtain ⟨y0,y1,y2,y3,y4,y5,y6⟩:=ad.out w (Tch.refl _ _);obtain ⟨z0,z1,z2,z3,z4,z5,z6⟩:=ad.out w.drew HD.out;clear h ax;go_enter Tryz.func37,Tryz.ntmps37;go_wp2;go_region_held3 (λw'=>w'.cell? ⟨p,1,none⟩=some (.pointer (some ⟨b,0,none⟩))/\w'.cell? ⟨aa,ab,none⟩=some (.int .i64 x0)/\w'.cell? ⟨aa,ab+1,none⟩=some (.int .i64 x1)) (go_keep) (first | (go_at_call 87;refine (rCombine b G s x0 x0 1 0 x1 _ (H.out.sto.same ((Below.refl _ _).drew)) ⟨by omega,by omega⟩ ⟨by omega,by omega⟩ (by omega) (by omega) (by omega) (by omega) (by omega) (by omega) hlast).mono ?_;intro e w3 hK;obtain ⟨rfl,ao,ap⟩:=Kde.after ((Below.refl _ _).drew) hK an.out;obtain ⟨t0,t1,t2,t3,t4,t5,t6⟩:=ad.out w3 ap) | (go_at_call 83;refine (rKeyH _ _ _ af.out.1 af.out.2.1 af.out.2.2.1 af.out.2.2.2 t2).mono ?_;rintro e w4 ⟨rfl,ai⟩;have ag:=ap.same (Tch.of_below ai);obtain ⟨o0,o1,o2,o3,o4,o5,o6⟩:=ad.out w4 ag))
 all_goals
  have ay:Hid (Bs w0 w4 p b (Gnx G w w4) T (kmix s x0 x0 1 0 x1).2.2):=H.out.turn ((ao.same ai).mono (λi g=>g.elim .inl (λg=>.inr ⟨g.1,Nat.lt_of_lt_of_le g.2 ai.size⟩)) (Gnx.lt an.out ag.size)) ag;clear ao;go_wp2;go_ret;exact ⟨_,_,rfl,by rw [<- HV.out];exact aw.out,ay.out,ag⟩
theorem rKeyComb (w0 w p b G T s a k c N) (h:Bs w0 w p b G T s) (r:RdI w a k c N) (hN:∀x ∈ N,0<=x/\x<=9999999999) (hk:k=4) (hk5:k<=100000) (hG:∀x,a=some x->¬ G x.block) (hT:Tabs w0) (hlast:s.last<=1000000):
  Calls Tryz.prog 37 #[.pointer (some ⟨p,0,none⟩),.string vComb,.slice a k c] w (Kyl w0 p b G T s vComb N w):=by
 obtain ⟨v,HV⟩:=nmd vComb;have q0:=qf0 HV (by decide +kernel);have q1:=qf1 HV (by decide +kernel);have q2:=qf2 HV (by decide +kernel);have q3:(v.toList == [99,111,109,98,105,110,101])=true:=by rw [<- HV.out];decide +kernel
 rw [HV.out];have aF:=r.len;have aG:=r.cap;have aw:=r.max;unfold maxLen at aw;have HN:=hid hN;clear hN;obtain ⟨aa,ab,x0,ay,ah,aj,_,_,ak⟩:=r.one (show 0<k by omega);subst ay;have aO:0<=x0/\x0<=9999999999:=by
  rw [<- aj.out];exact HN.out _ (gmem (show 0<N.length by omega))
 have aP:IntKind.u64.wrap x0=x0:=by rw [IntKind.wrap_u64];omega
 have aQ:(0:Int)<(k:Int):=by omega
 have aH:0<k:=by omega
 obtain ⟨aR,aS,x1,al,aI,am,_,_,az⟩:=r.one (show 1<k by omega);simp only [Option.some.injEq,Addr.mk.injEq,and_true] at al;obtain ⟨rfl,rfl⟩:=al;have aT:0<=x1/\x1<=9999999999:=by
  rw [<- am.out];exact HN.out _ (gmem (show 1<N.length by omega))
 have aU:IntKind.u64.wrap x1=x1:=by rw [IntKind.wrap_u64];omega
 have aV:(1:Int)<(k:Int):=by omega
 have aJ:1<k:=by omega
 obtain ⟨aW,aX,x2,an,aK,ao,_,_,aA⟩:=r.one (show 2<k by omega);simp only [Option.some.injEq,Addr.mk.injEq,and_true] at an;obtain ⟨rfl,rfl⟩:=an;have aY:0<=x2/\x2<=9999999999:=by
  rw [<- ao.out];exact HN.out _ (gmem (show 2<N.length by omega))
 have aZ:IntKind.u64.wrap x2=x2:=by rw [IntKind.wrap_u64];omega
 have a0:(2:Int)<(k:Int):=by omega
 have aL:2<k:=by omega
 obtain ⟨a1,a2,x3,ap,aM,aq,_,_,aB⟩:=r.one (show 3<k by omega);simp only [Option.some.injEq,Addr.mk.injEq,and_true] at ap;obtain ⟨rfl,rfl⟩:=ap;have a3:0<=x3/\x3<=9999999999:=by
  rw [<- aq.out];exact HN.out _ (gmem (show 3<N.length by omega))
 have a4:IntKind.u64.wrap x3=x3:=by rw [IntKind.wrap_u64];omega
 have a5:(3:Int)<(k:Int):=by omega
 have aN:3<k:=by omega
 rw [Nat.add_zero] at ak;have ae:Hid (∀w',Tch w w' G->w'.cell? ⟨p,1,none⟩=some (.pointer (some ⟨b,0,none⟩))/\p<w'.heap.size/\Tabs w'/\RdI w' (some ⟨aa,ab,none⟩) k c N/\w'.cell? ⟨aa,ab,none⟩=some (.int .i64 x0)/\w'.cell? ⟨aa,ab+1,none⟩=some (.int .i64 x1)/\w'.cell? ⟨aa,ab+2,none⟩=some (.int .i64 x2)/\w'.cell? ⟨aa,ab+3,none⟩=some (.int .i64 x3)/\aa<w'.heap.size):=λw' ht=>by
  have hr:=r.tch0 ht hG;have hb:=ht.below h.bel h.low h.bel.size;have ax:w'.heap[p]? = _:=(ht.block p h.lt h.off).trans h.row;have ad:∀o,w'.cell? ⟨aa,o,none⟩=w.cell? ⟨aa,o,none⟩:=λo=>cell_block (ht.block aa ah (hG _ rfl));exact ⟨by rw [cell_of_row w' p _ _ _ (0,0) ax];rfl,Nat.lt_of_lt_of_le h.lt ht.size,hT.below hb,hr,by rw [ad];exact ak,by rw [ad];exact az,by rw [ad];exact aA,by rw [ad];exact aB,Nat.lt_of_lt_of_le ah ht.size⟩
 have aC:Hid (Dky vComb N s (sad [(kmix s x0 x1 x2 x3 0).1] (kmix s x0 x1 x2 x3 0).2.1) (kmix s x0 x1 x2 x3 0).2.2):=by unfold Hid Dky;(iterate 3 rewrite [if_neg (by decide)]);rw [if_pos rfl];unfold Dkh;rw [aj.out,am.out,ao.out,aq.out];exact ⟨rfl,rfl⟩
 have af:Hid (0<=(kmix s x0 x1 x2 x3 0).1/\(kmix s x0 x1 x2 x3 0).1<=9223372036854775807/\-9223372036854775808<=(kmix s x0 x1 x2 x3 0).2.1/\(kmix s x0 x1 x2 x3 0).2.1<=9223372036854775807):=kmix_rb _ _ _ _ _ hlast;have aD:=h.sto;have H:=hid h;have HD:Hid (Tch w w.drew G):=Tch.of_below (Below.refl _ _).drew;have ar:=hid h.sto.2;obtain ⟨y0,y1,y2,y3,y4,y5,y6,y7,y8⟩:=ae.out w (Tch.refl _ _);obtain ⟨z0,z1,z2,z3,z4,z5,z6,z7,z8⟩:=ae.out w.drew HD.out;clear h aD;go_enter Tryz.func37,Tryz.ntmps37;go_wp2;go_region_held3 (λw'=>w'.cell? ⟨p,1,none⟩=some (.pointer (some ⟨b,0,none⟩))/\w'.cell? ⟨aa,ab,none⟩=some (.int .i64 x0)/\w'.cell? ⟨aa,ab+1,none⟩=some (.int .i64 x1)/\w'.cell? ⟨aa,ab+2,none⟩=some (.int .i64 x2)/\w'.cell? ⟨aa,ab+3,none⟩=some (.int .i64 x3)) (go_keep) (first | (go_at_call 87;refine (rCombine b G s x0 x1 x2 x3 0 _ (H.out.sto.same ((Below.refl _ _).drew)) ⟨by omega,by omega⟩ ⟨by omega,by omega⟩ (by omega) (by omega) (by omega) (by omega) (by omega) (by omega) hlast).mono ?_;intro e w3 hK;obtain ⟨rfl,au,av⟩:=Kde.after ((Below.refl _ _).drew) hK ar.out;obtain ⟨t0,t1,t2,t3,t4,t5,t6,t7,t8⟩:=ae.out w3 av) | (go_at_call 83;refine (rKeyH _ _ _ af.out.1 af.out.2.1 af.out.2.2.1 af.out.2.2.2 t2).mono ?_;rintro e w4 ⟨rfl,ai⟩;have ag:=av.same (Tch.of_below ai);obtain ⟨o0,o1,o2,o3,o4,o5,o6,o7,o8⟩:=ae.out w4 ag))
 all_goals
  have aE:Hid (Bs w0 w4 p b (Gnx G w w4) T (kmix s x0 x1 x2 x3 0).2.2):=H.out.turn ((au.same ai).mono (λi g=>g.elim .inl (λg=>.inr ⟨g.1,Nat.lt_of_lt_of_le g.2 ai.size⟩)) (Gnx.lt ar.out ag.size)) ag;clear au;go_wp2;go_ret;exact ⟨_,_,rfl,by rw [<- HV.out];exact aC.out,aE.out,ag⟩
theorem rKeyMult (w0 w p b G T s a k c N) (h:Bs w0 w p b G T s) (r:RdI w a k c N) (hN:∀x ∈ N,0<=x/\x<=9999999999) (hk:2<=k) (hk5:k<=100000) (hG:∀x,a=some x->¬ G x.block) (hT:Tabs w0) (hlast:s.last<=1000000):
  Calls Tryz.prog 37 #[.pointer (some ⟨p,0,none⟩),.string vMult,.slice a k c] w (Kyl w0 p b G T s vMult N w):=by
 obtain ⟨v,HV⟩:=nmd vMult;have q0:=qf0 HV (by decide +kernel);have q1:=qf1 HV (by decide +kernel);have q2:=qf2 HV (by decide +kernel);have q3:=qf3 HV (by decide +kernel);have q4:(v.toList == [109,117,108,116,105,112,108,121])=true:=by rw [<- HV.out];decide +kernel
 rw [HV.out];have aH:=r.len;have aI:=r.cap;have aw:=r.max;unfold maxLen at aw;have HN:=hid hN;clear hN;obtain ⟨aa,ab,x0,ay,ah,al,_,_,am⟩:=r.one (show 0<k by omega);subst ay;have aM:0<=x0/\x0<=9999999999:=by
  rw [<- al.out];exact HN.out _ (gmem (show 0<N.length by omega))
 have aN:IntKind.u64.wrap x0=x0:=by rw [IntKind.wrap_u64];omega
 have aO:(0:Int)<(k:Int):=by omega
 have aJ:0<k:=by omega
 obtain ⟨aP,aQ,x1,an,aK,ao,_,_,az⟩:=r.one (show 1<k by omega);simp only [Option.some.injEq,Addr.mk.injEq,and_true] at an;obtain ⟨rfl,rfl⟩:=an;have aR:0<=x1/\x1<=9999999999:=by
  rw [<- ao.out];exact HN.out _ (gmem (show 1<N.length by omega))
 have aS:IntKind.u64.wrap x1=x1:=by rw [IntKind.wrap_u64];omega
 have aT:(1:Int)<(k:Int):=by omega
 have aL:1<k:=by omega
 rw [Nat.add_zero] at am;have ad:Hid (∀w',Tch w w' G->w'.cell? ⟨p,1,none⟩=some (.pointer (some ⟨b,0,none⟩))/\p<w'.heap.size/\Tabs w'/\RdI w' (some ⟨aa,ab,none⟩) k c N/\w'.cell? ⟨aa,ab,none⟩=some (.int .i64 x0)/\w'.cell? ⟨aa,ab+1,none⟩=some (.int .i64 x1)/\aa<w'.heap.size):=λw' ht=>by
  have hr:=r.tch0 ht hG;have hb:=ht.below h.bel h.low h.bel.size;have ax:w'.heap[p]? = _:=(ht.block p h.lt h.off).trans h.row;have ae:∀o,w'.cell? ⟨aa,o,none⟩=w.cell? ⟨aa,o,none⟩:=λo=>cell_block (ht.block aa ah (hG _ rfl));exact ⟨by rw [cell_of_row w' p _ _ _ (0,0) ax];rfl,Nat.lt_of_lt_of_le h.lt ht.size,hT.below hb,hr,by rw [ae];exact am,by rw [ae];exact az,Nat.lt_of_lt_of_le ah ht.size⟩
 obtain ⟨N1,ai⟩:=nmd (N.drop 2);have aA:Hid (Dky vMult N s (sad [(kmul s x0 x1 N1).1] (kmul s x0 x1 N1).2.1) (kmul s x0 x1 N1).2.2):=by unfold Hid Dky;(iterate 4 rewrite [if_neg (by decide)]);rw [if_pos rfl];unfold Dkh;rw [al.out,ao.out,ai.out];exact ⟨rfl,rfl⟩
 have af:Hid (0<=(kmul s x0 x1 N1).1/\(kmul s x0 x1 N1).1<=9223372036854775807/\-9223372036854775808<=(kmul s x0 x1 N1).2.1/\(kmul s x0 x1 N1).2.1<=9223372036854775807):=kmul_rb _ _ _ hlast;have aB:=h.sto;have H:=hid h;have HD:Hid (Tch w w.drew G):=Tch.of_below (Below.refl _ _).drew;have ap:=hid h.sto.2;obtain ⟨sa,aq⟩:=nmd (subA (some ⟨aa,ab,none⟩) c 2);have hsl:∀W,(Instr.sliceAt 63 (.slice (some ⟨aa,ab,none⟩) k c) (some (.int .i64 2)) none none).run Tryz.prog W = .ok (.slice sa (k-2) (c-2)) W:=λW=>by
  rw [<- aq.out];exact run_subl Tryz.underlying63 infoIn1 _ k c 2 rfl (by omega) W
 have aC:Hid (∀w',RdI w' (some ⟨aa,ab,none⟩) k c N->RdI w' sa (k-2) (c-2) N1):=λw' hr=>by rw [<- aq.out,<- ai.out];exact hr.sub (by omega)
 have ar:Hid (∀x ∈ N1,0<=x/\x<=9999999999):=λx hx=>HN.out x (List.mem_of_mem_drop (by rw [ai.out];exact hx));have aU:(2:Int)<=(k:Int):=by omega
 obtain ⟨y0,y1,y2,y3,y4,y5,y6⟩:=ad.out w (Tch.refl _ _);obtain ⟨z0,z1,z2,z3,z4,z5,z6⟩:=ad.out w.drew HD.out;clear h aB;go_enter Tryz.func37,Tryz.ntmps37;go_wp2;go_region_held3 (λw'=>w'.cell? ⟨p,1,none⟩=some (.pointer (some ⟨b,0,none⟩))/\w'.cell? ⟨aa,ab,none⟩=some (.int .i64 x0)/\w'.cell? ⟨aa,ab+1,none⟩=some (.int .i64 x1)) (go_keep) (first | (go_at_call 32;refine (rWide _ _ _ N1 _ (aC.out _ z3) (by omega) ar.out).mono ?_;rintro e w2 ⟨v2,rfl,aD,aE⟩;obtain ⟨a2,c2,rfl,aF,_⟩:=Rd.own aD (λx hx=>by have:=ar.out x hx;omega);have aj:Below w.heap.size w w2:=((Below.refl _ _).drew).trans (aE.mono (Nat.le_refl _));obtain ⟨u0,u1,u2,u3,u4,u5,u6⟩:=ad.out w2 (Tch.of_below aj)) | (go_at_call 88;refine (rMultiply b G s x0 x1 _ _ _ N1 _ (H.out.sto.same aj) ⟨by omega,by omega⟩ ⟨by omega,by omega⟩ aF hlast).mono ?_;intro e w3 hK;obtain ⟨rfl,au,av⟩:=Kde.after aj hK ap.out;obtain ⟨t0,t1,t2,t3,t4,t5,t6⟩:=ad.out w3 av) | (go_at_call 83;refine (rKeyH _ _ _ af.out.1 af.out.2.1 af.out.2.2.1 af.out.2.2.2 t2).mono ?_;rintro e w4 ⟨rfl,ak⟩;have ag:=av.same (Tch.of_below ak);obtain ⟨o0,o1,o2,o3,o4,o5,o6⟩:=ad.out w4 ag))
 all_goals
  have aG:Hid (Bs w0 w4 p b (Gnx G w w4) T (kmul s x0 x1 N1).2.2):=H.out.turn ((au.same ak).mono (λi g=>g.elim .inl (λg=>.inr ⟨g.1,Nat.lt_of_lt_of_le g.2 ak.size⟩)) (Gnx.lt ap.out ag.size)) ag;clear au;go_wp2;go_ret;exact ⟨_,_,rfl,by rw [<- HV.out];exact aA.out,aG.out,ag⟩
theorem rKeyKey (w0 w p b G T s a k c N) (h:Bs w0 w p b G T s) (r:RdI w a k c N) (hN:∀x ∈ N,0<=x/\x<=9999999999) (hk:k=1) (hk5:k<=100000) (hG:∀x,a=some x->¬ G x.block) (hT:Tabs w0) (hlast:s.last<=1000000):
  Calls Tryz.prog 37 #[.pointer (some ⟨p,0,none⟩),.string vKey,.slice a k c] w (Kyl w0 p b G T s vKey N w):=by
 obtain ⟨v,HV⟩:=nmd vKey;have q0:=qf0 HV (by decide +kernel);have q1:=qf1 HV (by decide +kernel);have q2:=qf2 HV (by decide +kernel);have q3:=qf3 HV (by decide +kernel);have q4:=qf4 HV (by decide +kernel);have q5:(v.toList == [107,101,121])=true:=by rw [<- HV.out];decide +kernel
 rw [HV.out];have ay:=r.len;have az:=r.cap;have am:=r.max;unfold maxLen at am;have HN:=hid hN;clear hN;obtain ⟨aa,ad,x0,ap,ae,aj,_,_,ak⟩:=r.one (show 0<k by omega);subst ap;have aB:0<=x0/\x0<=9999999999:=by
  rw [<- aj.out];exact HN.out _ (gmem (show 0<N.length by omega))
 have aC:IntKind.u64.wrap x0=x0:=by rw [IntKind.wrap_u64];omega
 have aD:(0:Int)<(k:Int):=by omega
 have aA:0<k:=by omega
 rw [Nat.add_zero] at ak;have af:Hid (∀w',Tch w w' G->w'.cell? ⟨p,1,none⟩=some (.pointer (some ⟨b,0,none⟩))/\p<w'.heap.size/\Tabs w'/\RdI w' (some ⟨aa,ad,none⟩) k c N/\w'.cell? ⟨aa,ad,none⟩=some (.int .i64 x0)/\aa<w'.heap.size):=λw' ht=>by
  have hr:=r.tch0 ht hG;have hb:=ht.below h.bel h.low h.bel.size;have an:w'.heap[p]? = _:=(ht.block p h.lt h.off).trans h.row;have ai:∀o,w'.cell? ⟨aa,o,none⟩=w.cell? ⟨aa,o,none⟩:=λo=>cell_block (ht.block aa ae (hG _ rfl));exact ⟨by rw [cell_of_row w' p _ _ _ (0,0) an];rfl,Nat.lt_of_lt_of_le h.lt ht.size,hT.below hb,hr,by rw [ai];exact ak,Nat.lt_of_lt_of_le ae ht.size⟩
 have aq:=h.sto;have H:=hid h;have HD:Hid (Tch w w.drew G):=Tch.of_below (Below.refl _ _).drew;have aE:=hid h.sto.2;obtain ⟨y0,y1,y2,y3,y4,y5⟩:=af.out w (Tch.refl _ _);obtain ⟨z0,z1,z2,z3,z4,z5⟩:=af.out w.drew HD.out;clear h aq;go_enter Tryz.func37,Tryz.ntmps37;go_wp2;go_region_held3 (λw'=>w'.cell? ⟨p,1,none⟩=some (.pointer (some ⟨b,0,none⟩))/\w'.cell? ⟨aa,ad,none⟩=some (.int .i64 x0)) (go_keep) (first | (go_at_call 89;refine (rOpenK b G s x0 _ (H.out.sto.same ((Below.refl _ _).drew)) (by omega) (by omega)).mono ?_;rintro e w3 ⟨y,q,rfl,hO,ag⟩;have ar:Tch w w3 G:=HD.out.same (Tch.of_below ag);obtain ⟨t0,t1,t2,t3,t4,t5⟩:=af.out w3 ar))
 all_goals
  have aF:=hO.val2;have al:=hO.rb;have au:Hid (Dky vKey N s (sad [y] q) s):=by unfold Hid Dky;(iterate 5 rewrite [if_neg (by decide)]);rw [if_pos rfl,aj.out];exact ⟨rfl,y,q,hO,rfl⟩
  have ah:Below w3.heap.size w3 (w3.alloc (.cells #[.int .u64 y] 70)):=bal _ _;have r1:Rd (w3.alloc (.cells #[.int .u64 y] 70)) (some ⟨w3.heap.size,0,none⟩) 1 1 [y]:=(Blk.lit1 w3 y).whole 1 rfl (by unfold maxLen;omega) (λu hu=>by rw [List.mem_singleton.1 hu];omega);have av:=t2.below ah;clear hO;go_wp2_with fail;generalize w3.alloc (.cells #[.int .u64 y] 70)=wA at *;refine (rSaid _ _ _ [y] q _ r1 (by omega) al.1 al.2 av).mono ?_;rintro e w4 ⟨rfl,aw⟩;have ao:=btr ah aw;have ab:Below w.heap.size w w4:=((Below.refl _ _).drew).trans ((btr ag ao).mono (Nat.le_refl _));have ax:Hid (Bs w0 w4 p b (Gnx G w w4) T s):=H.out.turn (H.out.sto.below ab) (Tch.of_below ab);go_wp2;go_ret;exact ⟨_,_,rfl,by rw [<- HV.out];exact au.out,ax.out,Tch.of_below ab⟩
theorem rKeyDrop (w0 w p b G T s a k c N) (h:Bs w0 w p b G T s) (r:RdI w a k c N) (hN:∀x ∈ N,0<=x/\x<=9999999999) (hk:k=1) (hk5:k<=100000) (hG:∀x,a=some x->¬ G x.block) (hT:Tabs w0) (hlast:s.last<=1000000):
  Calls Tryz.prog 37 #[.pointer (some ⟨p,0,none⟩),.string vDrop,.slice a k c] w (Kyl w0 p b G T s vDrop N w):=by
 obtain ⟨v,HV⟩:=nmd vDrop;have q0:=qf0 HV (by decide +kernel);have q1:=qf1 HV (by decide +kernel);have q2:=qf2 HV (by decide +kernel);have q3:=qf3 HV (by decide +kernel);have q4:=qf4 HV (by decide +kernel);have q5:=qf5 HV (by decide +kernel);rw [HV.out];have aw:=r.len;have ax:=r.cap;have ao:=r.max;unfold maxLen at ao;have HN:=hid hN;clear hN;obtain ⟨aa,ae,x0,aq,af,ai,_,_,aj⟩:=r.one (show 0<k by omega);subst aq;have az:0<=x0/\x0<=9999999999:=by
  rw [<- ai.out];exact HN.out _ (gmem (show 0<N.length by omega))
 have aA:IntKind.u64.wrap x0=x0:=by rw [IntKind.wrap_u64];omega
 have aB:(0:Int)<(k:Int):=by omega
 have ay:0<k:=by omega
 rw [Nat.add_zero] at aj;have ab:Hid (∀w',Tch w w' G->w'.cell? ⟨p,1,none⟩=some (.pointer (some ⟨b,0,none⟩))/\p<w'.heap.size/\Tabs w'/\RdI w' (some ⟨aa,ae,none⟩) k c N/\w'.cell? ⟨aa,ae,none⟩=some (.int .i64 x0)/\aa<w'.heap.size):=λw' ht=>by
  have hr:=r.tch0 ht hG;have hb:=ht.below h.bel h.low h.bel.size;have ap:w'.heap[p]? = _:=(ht.block p h.lt h.off).trans h.row;have ah:∀o,w'.cell? ⟨aa,o,none⟩=w.cell? ⟨aa,o,none⟩:=λo=>cell_block (ht.block aa af (hG _ rfl));exact ⟨by rw [cell_of_row w' p _ _ _ (0,0) ap];rfl,Nat.lt_of_lt_of_le h.lt ht.size,hT.below hb,hr,by rw [ah];exact aj,Nat.lt_of_lt_of_le af ht.size⟩
 have ar:Hid (Dky vDrop N s (fne (kdrp s x0).1) (kdrp s x0).2):=by unfold Hid Dky;(iterate 5 rewrite [if_neg (by decide)]);rw [if_neg (by decide)];unfold Dkt;rw [ai.out];exact ⟨rfl,rfl⟩
 have ak:Hid (-9223372036854775808<=(kdrp s x0).1/\(kdrp s x0).1<=9223372036854775807):=kdrp_rb _ _;have au:=h.sto;have H:=hid h;have HD:Hid (Tch w w.drew G):=Tch.of_below (Below.refl _ _).drew;have al:=hid h.sto.2;obtain ⟨y0,y1,y2,y3,y4,y5⟩:=ab.out w (Tch.refl _ _);obtain ⟨z0,z1,z2,z3,z4,z5⟩:=ab.out w.drew HD.out;clear h au;go_enter Tryz.func37,Tryz.ntmps37;go_wp2;go_region_held3 (λw'=>w'.cell? ⟨p,1,none⟩=some (.pointer (some ⟨b,0,none⟩))/\w'.cell? ⟨aa,ae,none⟩=some (.int .i64 x0)) (go_keep) (first | (go_at_call 90;refine (rDrop b G s x0 _ (H.out.sto.same ((Below.refl _ _).drew)) (by omega) (by omega)).mono ?_;intro e w3 hK;obtain ⟨rfl,am,an⟩:=Kte.after ((Below.refl _ _).drew) hK al.out;obtain ⟨t0,t1,t2,t3,t4,t5⟩:=ab.out w3 an) | (go_at_call 85;refine (rFine _ _ ak.out.1 ak.out.2 t2).mono ?_;rintro e w4 ⟨rfl,ag⟩;have ad:=an.same (Tch.of_below ag);obtain ⟨o0,o1,o2,o3,o4,o5⟩:=ab.out w4 ad))
 all_goals
  have av:Hid (Bs w0 w4 p b (Gnx G w w4) T (kdrp s x0).2):=H.out.turn ((am.same ag).mono (λi g=>g.elim .inl (λg=>.inr ⟨g.1,Nat.lt_of_lt_of_le g.2 ag.size⟩)) (Gnx.lt al.out ad.size)) ad;clear am;go_wp2;go_ret;exact ⟨_,_,rfl,by rw [<- HV.out];exact ar.out,av.out,ad⟩
end
section
open Crm Go.RowKit Go.Shelf
theorem app_lies {P:Program} (w:World) (base:Nat) (t u ty e:TypeId) (i:TypeInfo) (ht:P.underlying t=some (.slice e)) (hu:P.underlying u=some .string) (hi:P.info? e=some i) (hz:i.zero=some (.int .u8 0)) (hsize:i.size=1) (hby:i.bytes=1) (v:Value) (n:Nat) (xs:List Value) (hown:w.ownsRow base e 1 v n xs) (s:ByteArray) (hb:n+s.size<=140737488355328) {v':Value} {w':World} (hr:(Builtin.append_ #[t,u] ty #[v,.string s]).run P w = .ok v' w'):v'.ownBlock=v.ownBlock\/∀k,v'.ownBlock=some k->w.heap.size<=k:=by
 have af:xs.length=n:=by simpa using hown.1
 rcases hown.2 with ⟨rfl,rfl⟩ | ⟨g,ab,ae,rfl,_,hg,_,_,ag,_⟩
 ·by_cases hm:s.size=0
  ·left;have hf:=Lib.run_firstCells_string (P:=P) w 1 s;rw [hm] at hf;have aa:(Builtin.append_ #[t,u] ty #[.slice none 0 0,.string s]).run P w = .ok (.slice none 0 0) w:=by simp [Builtin.append_,run_underlying ht,run_underlying hu,sizeOf,typeInfo,hi,hsize,Builtin.lenOf,hm,hf]
   rw [hr] at aa;injection aa with e1 _;rw [e1]
  ·right;have aa:=run_append_nil_string (P:=P) w t u ty e i (.int .u8 0) ht hu hi hz s (by omega) (by omega) (by rw [hby];omega);rw [hr] at aa;injection aa with e1 _;intro k hk;rw [e1] at hk;simp [Value.ownBlock] at hk;omega
 ·by_cases hroom:n+s.size<=ab
  ·left;have ah:ae.size=ab:=by simpa using ag
   have aa:=Lib.run_append_room_string (P:=P) w t u ty e i ht hu hi hsize g n ab ae hg s hroom (by omega);rw [hr] at aa;injection aa with e1 _;rw [e1];rfl
  ·right;have ad:∀j u,xs[j]? = some u->w.cell? ((⟨g,0,none⟩:Addr).add j)=some u:=hown.cells (g:=g) rfl;have aa:=Lib.run_append_grow_string (P:=P) w t u ty e i (.int .u8 0) ht hu hi hz ⟨g,0,none⟩ n ab xs (by rw [hsize];simpa using af) ad s (by omega) (by omega) (by rw [hby];exact growslice_fits (by omega) (by omega));rw [hr] at aa;injection aa with e1 _;intro k hk;rw [e1] at hk;simp [Value.ownBlock] at hk;omega
theorem wpList_appB {P:Program} (w:World) {ops:Array Oper} {rest:List Oper} {o:Oper} {a:Act} {Q:Exit->Act->World->Prop} (hgd:o.guard=none) (sl x:Operand) (t u:TypeId) (ho:o.op = .call { callee:=.builtin .append,args:=#[sl,x],argTypes:=#[t,u] }) (base:Nat) (e:TypeId) (i:TypeInfo) (ht:P.underlying t=some (.slice e)) (hu:P.underlying u=some .string) (hi:P.info? e=some i) (hz:i.zero=some (.int .u8 0)) (hsize:i.size=1) (hby:i.bytes=1) (v:Value) (n:Nat) (xs:List Value) (hs:a.eval sl=v) (hown:w.ownsRow base e 1 v n xs) (s:ByteArray) (hx:a.eval x = .string s) (hb:n+s.size<=1000000000) (hbase:base<=w.heap.size) (h:∀v' w',w'.ownsRow base e 1 v' (n+s.size) (xs++Lib.strCells s)->w.grownBy w' v.ownBlock->(v'.ownBlock=v.ownBlock\/∀k,v'.ownBlock=some k->w.heap.size<=k)->wpList P ops Q rest (a.put o.dst v') w'):wpList P ops Q (o :: rest) a w:=by
 refine wpList_plain hgd λK hK=>?_;obtain ⟨v',w',hr,h2,h3,_⟩:=Lib.run_append_own_string (P:=P) w base t u o.type e i ht hu hi hz hsize hby v n xs hown s (by unfold maxLen;omega) (by omega) hbase;have h4:=app_lies w base t u o.type e i ht hu hi hz hsize hby v n xs hown s (by omega) hr;unfold Oper.wp execOp;simp only [ho,resolve,invoke,builtin,Sem.run_bind,Sem.run_pure,Result.andThen_ok,List.map_toArray,List.map_cons,List.map_nil,hs,hx,hr];exact hK _ _ (h v' w' h2 h3 h4)
def Bdf (w:World) (q:Nat) (t:ByteArray) (F:Nat->Prop):Prop:=
 ∃x v,(x = .pointer none\/x = .pointer (some ⟨q,0,none⟩))/\w.heap[q]? = some (.cells #[x,v] 35 (0,0))/\w.ownsRow 0 5 1 v (Lib.strCells t).length (Lib.strCells t)/\v.ownBlock≠some q/\F q/\∀g,v.ownBlock=some g->F g
theorem Bdf.lt {w q t F} (h:Bdf w q t F):q<w.heap.size:=by
 obtain ⟨x,v,_,h1,_⟩:=h;exact (Array.getElem?_eq_some_iff.1 h1).1
theorem Bdf.keep {w} {w':World} {q t F} (h:Bdf w q t F) (hk:∀i,F i->w'.heap[i]? = w.heap[i]?):Bdf w' q t F:=by
 obtain ⟨x,v,h0,h1,h2,h3,h4,h5⟩:=h;refine ⟨x,v,h0,by rw [hk q h4];exact h1,⟨h2.1,?_⟩,h3,h4,h5⟩
 rcases h2.2 with e | ⟨g,aa,ab,rfl,a1,a2,a3⟩
 ·exact .inl e
 ·exact .inr ⟨g,aa,ab,rfl,a1,by rw [hk g (h5 g rfl)];exact a2,a3⟩
theorem Bdf.is {w q} {B:Nat} {t F} (h:Bdf w q t F) (hF:∀i,F i->B<=i):Bld B q t w:=by
 obtain ⟨x,v,h0,h1,h2,h3,h4,h5⟩:=h;have ho:w.ownsRow B 5 1 v (Lib.strCells t).length (Lib.strCells t):=by
  refine ⟨h2.1,?_⟩
  rcases h2.2 with e | ⟨g,aa,ab,rfl,a1,a3⟩
  ·exact .inl e
  ·exact .inr ⟨g,aa,ab,rfl,hF g (h5 g rfl),a3⟩
 rcases h0 with rfl | rfl
 ·exact .inl ⟨hF q h4,v,h1,ho,h3⟩
 ·exact .inr ⟨hF q h4,v,h1,ho,h3⟩
theorem Bdf.new (w:World):Bdf (w.alloc (.cells #[.pointer none,.slice none 0 0] 35)) w.heap.size ⟨#[]⟩ (λi=>i=w.heap.size):=
 ⟨.pointer none,.slice none 0 0,.inl rfl,heap_alloc_new w _,World.ownsRow_nil _ _ _ _,by simp [Value.ownBlock],rfl,λg hg=>by simp [Value.ownBlock] at hg⟩
theorem sWriteF (q t) (s:ByteArray) (F w) (h:Bdf w q t F) (hlen:t.size+s.size<=1000000000):
  Calls Tryz.prog 9 #[.pointer (some ⟨q,0,none⟩),.string s] w λe w'=>e = .returned (.tuple #[.int .i64 s.size,.nilIface])/\Bdf w' q (t++s) (Gnx F w w')/\Tch w w' F:=by
 obtain ⟨i0,hi,am,an,ap⟩:=info_parts infoByteB;have aw:=Lib.strCells_length t;have ai:Calls Tryz.prog 19 #[.pointer (some ⟨q,0,none⟩)] w λe w'=>e = .returned (.tuple #[])/\(∃v,w'.heap[q]? = some (.cells #[.pointer (some ⟨q,0,none⟩),v] 35 (0,0))/\w'.ownsRow 0 5 1 v (Lib.strCells t).length (Lib.strCells t)/\v.ownBlock≠some q/\F q/\∀g,v.ownBlock=some g->F g)/\Tch w w' F/\w'.heap.size=w.heap.size:=by
  obtain ⟨x,v,h0,h1,h2,h3,h4,h5⟩:=h;rcases h0 with rfl | rfl
  ·have hB:Lib.BuilderAt 35 5 0 q (.pointer none) (Lib.strCells t) w:=⟨Nat.zero_le _,v,h1,h2,h3⟩;refine (sCopyFresh q w hB.cell0 hB.shape hB.frozen0).mono ?_;rintro e w' ⟨rfl,rfl⟩;have hk:w.grownBy (w.setCell ⟨q,0,none⟩ (.pointer (some ⟨q,0,none⟩))) (some q):=grown_set w q 0 _;refine ⟨rfl,⟨v,by simp [World.setCell,Array.getElem?_modify,h1],h2.kept hk (.inr h3),h3,h4,h5⟩,⟨rfl,rfl,rfl,by simp,λi hi hn=>hk.block i hi (λe=>hn (by obtain rfl:=Option.some.inj e;exact h4))⟩,by simp⟩
  ·have hB:Lib.BuilderAt 35 5 0 q (.pointer (some ⟨q,0,none⟩)) (Lib.strCells t) w:=⟨Nat.zero_le _,v,h1,h2,h3⟩;refine (sCopyUsed q w hB.cell0).mono ?_;rintro e w' ⟨rfl,rfl⟩;exact ⟨rfl,⟨v,h1,h2,h3,h4,h5⟩,Tch.refl _ _,rfl⟩
 clear h;go_enter Tryz.func9,Tryz.ntmps9;go_wp2_with (go_at_call 19;refine ai.mono ?_);rintro e w1 ⟨rfl,⟨v,af,al,aq,aj,ak⟩,ad,hz⟩;have c0:w1.cell? ⟨q,0,none⟩=some (.pointer (some ⟨q,0,none⟩)):=by rw [Lib.cell_of_heap af];rfl
 have c1:w1.cell? ⟨q,1,none⟩=some v:=by rw [Lib.cell_of_heap af];rfl
 have ar:q<w1.heap.size:=(Array.getElem?_eq_some_iff.1 af).1;have HZ:=hid hz;clear hz ai;go_wp2_with (at_builtin;refine wpList_appB w1 rfl _ _ 33 9 rfl 0 5 i0 Tryz.underlying33 Tryz.underlying9 hi am an ap _ _ _ rfl al s rfl (by omega) (Nat.zero_le _) ?_);intro v' w2 ag ab ah;have ae:w2.heap[q]? = some (.cells #[.pointer (some ⟨q,0,none⟩),v] 35 (0,0)):=by
  rw [ab.block q ar (λe=>aq e.symm)];exact af
 have d0:w2.cell? ⟨q,0,none⟩=some (.pointer (some ⟨q,0,none⟩)):=by rw [Lib.cell_of_heap ae];rfl
 have d1:w2.cell? ⟨q,1,none⟩=some v:=by rw [Lib.cell_of_heap ae];rfl
 have f1:w2.frozen? ⟨q,1,none⟩=false:=Lib.frozen_of_heap ae 1;obtain ⟨ao,n',aa,rfl⟩:∃ao n' aa,v' = .slice ao n' aa:=by
  rcases ag.2 with ⟨hv,_⟩ | ⟨g,aa,ax,hv,_⟩ <;> exact ⟨_,_,_,hv⟩
 have hP:Lib.BuilderAt 35 5 0 q (.pointer (some ⟨q,0,none⟩)) (Lib.strCells (t++s)) (w2.setCell ⟨q,1,none⟩ (.slice ao n' aa)):=Lib.BuilderAt.put (Nat.zero_le _) ae (bs':=Lib.strCells (t++s)) (by rw [<- strCells_app];simpa [Lib.strCells_length] using ag) neBld;have HE:Hid (Bdf (w2.setCell ⟨q,1,none⟩ (.slice ao n' aa)) q (t++s) (Gnx F w (w2.setCell ⟨q,1,none⟩ (.slice ao n' aa)))/\Tch w (w2.setCell ⟨q,1,none⟩ (.slice ao n' aa)) F):=by
  have au:(w2.setCell ⟨q,1,none⟩ (.slice ao n' aa)).heap.size=w2.heap.size:=by simp
  have hg:=ab.size;obtain ⟨_,vv,e1,e2,e3⟩:=hP;have av:vv = .slice ao n' aa:=by
   have:(w2.setCell ⟨q,1,none⟩ (.slice ao n' aa)).heap[q]? = some (.cells #[.pointer (some ⟨q,0,none⟩),.slice ao n' aa] 35 (0,0)):=by simp [World.setCell,Array.getElem?_modify,ae]
   rw [e1] at this;simp at this;exact this
  subst av;refine ⟨⟨_,_,.inr rfl,e1,e2,e3,.inl aj,λg hgk=>?_⟩,?_⟩
  ·rcases ah with e | e
   ·exact .inl (ak g (by rw [<- e];exact hgk))
   ·have:=e g hgk;have h9:=(e2.lt g hgk).2;exact .inr ⟨by rw [<- HZ.out];exact this,h9⟩
  ·refine ⟨ab.os.trans ad.os,ab.tape.trans ad.tape,ab.output.trans ad.output,by rw [au];exact Nat.le_trans ad.size hg,λi hi hn=>?_⟩
   have h6:i≠q:=λe=>hn (e ▸ aj);rw [heap_setCell_other w2 ⟨q,1,none⟩ i _ h6,ab.block i (by rw [HZ.out];exact hi) (λe=>hn (ak i e.symm)),ad.block i hi hn]
 clear hP ah ad;go_wp2;go_ret2;exact ⟨rfl,HE.out⟩
end
end Go.Proofs.YtljlioglpaogdacGreatDoor

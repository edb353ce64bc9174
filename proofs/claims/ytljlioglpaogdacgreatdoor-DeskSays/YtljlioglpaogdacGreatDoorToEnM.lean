/- PlayP PlB EnP EnS EnL EnM -/
import Derived.Test.YtljlioglpaogdacGreatDoorToEnDef
import Derived.Test.YtljlioglpaogdacGreatDoorToRNumC
import Derived.Deep.CutBlock
import Derived.Test.YtljlioglpaogdacGreatDoorEnR
namespace Go.Proofs.YtljlioglpaogdacGreatDoor
set_option linter.unusedVariables false
set_option maxRecDepth 100000
set_option maxHeartbeats 8000000
section
open Crm Go.RowKit
def sgl (G:List Gt) (n t:Nat) (ins ds:List Int) (i:Nat):List (List Int):=(List.range n).map λj=>sng G n t ins ds i j
theorem sgl_len (G:List Gt) (n t:Nat) (ins ds:List Int) (i:Nat):(sgl G n t ins ds i).length=n:=by simp [sgl]
def Psw (G:List Gt) (n t:Nat) (ins ds:List Int) (w:World) (gs i:Nat) (vW:Value) (LW:List Value) (u:Value) (w':World):Prop:=
 ∃(Ls:List Value) (lo hi:Nat),Sen w w' gs n Ls (sgl G n t ins ds (i+1)) vW LW (ewr G n t ins ds i) lo hi/\w'.ownsRow w.heap.size 70 1 u n ((ew G n t ins ds i).map (Value.int .u64))/\Btw lo hi u/\∀p b,(LW.getD p (.slice none 0 0)).ownBlock=some b->b<lo
theorem Sen.fresh {w wr w' gs n Ls S vW LW W lo hi} (h:Sen w wr gs n Ls S vW LW W lo hi) (hn:0<n) (hb:Below wr.heap.size wr w'):Sen w w' gs n Ls S vW LW W wr.heap.size w'.heap.size:=
 ⟨h.seen.below hb,h.len,h.wires.below hb,h.apt,h.out,λp hp gg hgg=>.inl ((h.seen.row p (by rw [h.len];exact hp)).lt gg hgg).2,(h.seen.cell h.len hn).2.2,Nat.le_refl _,btr h.bel hb⟩
theorem sgl_same {G:List Gt} {n t:Nat} {ins ds:List Int} {i:Nat} (h1:(gt G i).k≠1) (h5:(gt G i).k≠5):sgl G n t ins ds (i+1)=sgl G n t ins ds i:=by
 unfold sgl;refine List.map_congr_left λj _=>?_;rw [sng_succ];unfold esn;rw [if_neg h1,if_neg h5,List.append_nil]
theorem sgl_next (G:List Gt) (n t:Nat) (ins ds:List Int) (i:Nat):sgx (sng G n t ins ds i) (esn G n t ins ds i) n n=sgl G n t ins ds (i+1):=by
 rw [sgx_full];unfold sgl;refine List.map_congr_left λj _=>?_;rw [sng_succ]
theorem sgl_first (G:List Gt) (n t:Nat) (ins ds:List Int) (i:Nat):sgl G n t ins ds i=sgx (sng G n t ins ds i) (esn G n t ins ds i) n 0:=by rw [sgx_zero];rfl
theorem dwn_mono (G:List Gt) (n t:Nat) {i j:Nat} (h:i <= j): dwn G n t i <= dwn G n t j := by
  induction j with
  | zero => obtain rfl : i = 0 := by omega
            exact Nat.le_refl _
  | succ j ih =>
    by_cases e : i = j + 1
    · rw [e]; exact Nat.le_refl _
    · have := ih (by omega)
      rw [dwn]
      omega
theorem esn_le (G:List Gt) (n t:Nat) (ins ds:List Int) (i j:Nat) (hn:n<=9):(esn G n t ins ds i j).length<=9:=by
 unfold esn;split
 ·simp
 ·split
  ·rw [tmR_len];exact hn
  ·simp
theorem sng_bound (G:List Gt) (n t:Nat) (ins ds:List Int) (i j:Nat) (hn:n<=9):(sng G n t ins ds i j).length<=9*i:=by
 induction i with
 | zero=>simp [sng]
 | succ i ih=>
  have:=esn_le G n t ins ds i j hn;rw [sng_succ,List.length_append];omega
theorem Psw.next {G n t ins ds w wc} {w2:World} {gs i vW} {v2:Value} {u LW} (h:Psw G n t ins ds w gs i vW LW u wc) (hn:0<n) (ho:w2.ownsRow w.heap.size 52 1 v2 (i+1) (LW ++ [u])) (hg:wc.grownBy w2 vW.ownBlock) (hat:v2.ownBlock=vW.ownBlock\/∃k,v2.ownBlock=some k/\wc.heap.size<=k):∃Ls,Sen w w2 gs n Ls (sgl G n t ins ds (i+1)) v2 (LW ++ [u]) (ewr G n t ins ds (i+1)) (gs+1) (gs+1):=by
 obtain ⟨Ls,lo,hi,hS,hu,hb,aa⟩:=h;have hE:(52:TypeId)≠70:=by decide
 have ab:=(hS.seen.cell hS.len hn).2.2;have ad:=ewr_len G n t ins ds i;have ae:∀p,(LW.getD p (.slice none 0 0)).ownBlock=none\/(LW.getD p (.slice none 0 0)).ownBlock≠u.ownBlock:=λp=>by
  cases e:(LW.getD p (.slice none 0 0)).ownBlock with
  | none=>exact .inl rfl
  | some b=>
   right;intro e';have h1:=aa p b e;have h2:=hb b e'.symm;omega
 have af:∀p,u.ownBlock=none\/u.ownBlock≠(Ls.getD p (.slice none 0 0)).ownBlock:=λp=>by
  cases e:u.ownBlock with
  | none=>exact .inl rfl
  | some b=>
   right;intro e';have h2:=hb b e;by_cases hp:p<n
   ·have h3:=hS.far p hp b e'.symm;omega
   ·have hl:=hS.seen.len;rw [hS.len] at hl;rw [List.getD_eq_getElem?_getD,List.getElem?_eq_none (by omega)] at e';simp [Value.ownBlock] at e'
 refine ⟨Ls,hS.seen.grown hg (.inr (λe=>hS.out e.symm)) (λp hp=>own_apart hS.wires.own (hS.seen.row p hp) hE),hS.len,?_,(hS.apt.symm.add af).symm,?_,λp _ gg _=>by omega,by omega,Nat.le_trans ab hg.size,hS.bel.grown hg hS.bel.size (λq hq=>(hS.wires.own.lt q hq).1)⟩
 ·rw [ewr_succ];exact hS.wires.add (by rw [ew_len];exact hu) (λp _=>ae p) (by rw [ad];exact ho) hg
 ·rcases hat with e | ⟨k,e,hk⟩
  ·rw [e];exact hS.out
  ·rw [e];intro e';have:=Option.some.inj e';omega
theorem sno_bound (G:List Gt) (O:List Int) (n t:Nat) (ins ds:List Int) (N q j:Nat) (hn:n<=9):(sno G O n t ins ds N q j).length<=9*N+9*q:=by
 induction q with
 | zero=>have:=sng_bound G n t ins ds N j hn;simp [sno];omega
 | succ q ih=>rw [sno_succ,List.length_append,ew_len];omega
theorem snl_next (G:List Gt) (O:List Int) (n t:Nat) (ins ds:List Int) (N q:Nat):sgx (sno G O n t ins ds N q) (λ_=>ew G n t ins ds (O.getD q 0).toNat) n n=snl G O n t ins ds N (q+1):=by
 rw [sgx_full];unfold snl;refine List.map_congr_left λj _=>?_;rw [sno_succ]
theorem snl_first (G:List Gt) (O:List Int) (n t:Nat) (ins ds:List Int) (N q:Nat):snl G O n t ins ds N q=sgx (sno G O n t ins ds N q) (λ_=>ew G n t ins ds (O.getD q 0).toNat) n 0:=by rw [sgx_zero];rfl
theorem snl_zero (G:List Gt) (O:List Int) (n t:Nat) (ins ds:List Int) (N:Nat):sgl G n t ins ds N=snl G O n t ins ds N 0:=by
 unfold sgl snl;refine List.map_congr_left λj _=>?_;simp [sno]
def PBox (w:World) (g n t:Nat) (vi vd vW vS:Value):Prop:=w.heap[g]? = some (.cells #[.int .i64 (n:Int),.int .i64 (t:Int),vi,vd,vW,vS] 136 (0,0))
theorem PBox.lt {w g n t vi vd vW vS} (h:PBox w g n t vi vd vW vS):g<w.heap.size:=(Array.getElem?_eq_some_iff.1 h).1
theorem PBox.cells {w g n t vi vd vW vS} (h:PBox w g n t vi vd vW vS):w.cell? ⟨g,0,none⟩=some (.int .i64 (n:Int))/\w.cell? ⟨g,1,none⟩=some (.int .i64 (t:Int))/\w.cell? ⟨g,2,none⟩=some vi/\w.cell? ⟨g,3,none⟩=some vd/\w.cell? ⟨g,4,none⟩=some vW/\w.cell? ⟨g,5,none⟩=some vS:=by
 unfold PBox at h;rw [cell_of_row w g 0 _ _ (0,0) h,cell_of_row w g 1 _ _ (0,0) h,cell_of_row w g 2 _ _ (0,0) h,cell_of_row w g 3 _ _ (0,0) h,cell_of_row w g 4 _ _ (0,0) h,cell_of_row w g 5 _ _ (0,0) h];exact ⟨rfl,rfl,rfl,rfl,rfl,rfl⟩
theorem PBox.below {w w' B g n t vi vd vW vS} (h:PBox w g n t vi vd vW vS) (hb:Below B w w') (hg:g<B):PBox w' g n t vi vd vW vS:=by
 unfold PBox;rw [hb.block g hg];exact h
theorem PBox.grown {w} {w':World} {g n t} {r:Option Nat} {vi vd vW vS} (h:PBox w g n t vi vd vW vS) (hg:w.grownBy w' r) (hr:some g≠r):PBox w' g n t vi vd vW vS:=by
 unfold PBox;rw [hg.block g h.lt hr];exact h
theorem PBox.drew {w g n t vi vd vW vS} (h:PBox w g n t vi vd vW vS):PBox w.drew g n t vi vd vW vS:=h
theorem PBox.frozen {w g n t vi vd vW vS} (h:PBox w g n t vi vd vW vS) (i:Nat):w.frozen? ⟨g,i,none⟩=false:=frozen_of_row w g i _ _ h
theorem PBox.set2 {w g n t vi vd vW vS} (h:PBox w g n t vi vd vW vS) (v:Value):PBox (w.setCell ⟨g,2,none⟩ v) g n t v vd vW vS:=by
 have:=heap_setCell_same w g 2 _ _ v h;unfold PBox;rw [this];rfl
theorem PBox.set3 {w g n t vi vd vW vS} (h:PBox w g n t vi vd vW vS) (v:Value):PBox (w.setCell ⟨g,3,none⟩ v) g n t vi v vW vS:=by
 have:=heap_setCell_same w g 3 _ _ v h;unfold PBox;rw [this];rfl
theorem PBox.set4 {w g n t vi vd vW vS} (h:PBox w g n t vi vd vW vS) (v:Value):PBox (w.setCell ⟨g,4,none⟩ v) g n t vi vd v vS:=by
 have:=heap_setCell_same w g 4 _ _ v h;unfold PBox;rw [this];rfl
theorem PBox.off {w g n t vi vd vW vS} {v:Value} {B z k:Nat} {E:TypeId} {xs:List Value} (h:PBox w g n t vi vd vW vS) (ho:w.ownsRow B E z v k xs) (hE:E≠136):v.ownBlock=none\/v.ownBlock≠some g:=by
 rcases ho.2 with ⟨rfl,_⟩ | ⟨g',aa,ab,rfl,_,hg,_⟩
 ·exact .inl rfl
 ·right;intro e;simp only [Value.ownBlock,Option.some.injEq] at e;subst e;unfold PBox at h;rw [hg] at h;simp only [Option.some.injEq,Obj.cells.injEq] at h;exact hE h.2.1
theorem PBox.off' {w g n t vi vd vW vS} {v:Value} {B z k:Nat} {E:TypeId} {xs:List Value} (h:PBox w g n t vi vd vW vS) (ho:w.ownsRow B E z v k xs) (hE:E≠136):some g≠v.ownBlock:=by
 rcases h.off ho hE with e | e
 ·rw [e];simp
 ·exact λe'=>e e'.symm
theorem eUP:(70:TypeId)≠136:=by decide
theorem eVP:(52:TypeId)≠136:=by decide
structure PSt (w wr:World) (gp gs n t:Nat) (vi vd:Value) (Ls:List Value) (S:List (List Int)) (vW:Value) (LW:List Value) (W:List (List Int)) (lo hi:Nat):Prop where
 sen:Sen w wr gs n Ls S vW LW W lo hi
 box:PBox wr gp n t vi vd vW (.slice (some ⟨gs,0,none⟩) n n)
 low:w.heap.size<=gp
theorem PSt.drew {w wr gp gs n t vi vd Ls S vW LW W lo hi} (h:PSt w wr gp gs n t vi vd Ls S vW LW W lo hi):PSt w wr.drew gp gs n t vi vd Ls S vW LW W lo hi:=
 ⟨h.sen.drew,h.box,h.low⟩
theorem PSt.below {w wr w' gp gs n t vi vd Ls S vW LW W lo hi} (h:PSt w wr gp gs n t vi vd Ls S vW LW W lo hi) (hb:Below wr.heap.size wr w'):PSt w w' gp gs n t vi vd Ls S vW LW W lo hi:=
 ⟨h.sen.below hb,h.box.below hb h.box.lt,h.low⟩
theorem PSt.fresh {w wr w' gp gs n t vi vd Ls S vW LW W lo hi} (h:PSt w wr gp gs n t vi vd Ls S vW LW W lo hi) (hn:0<n) (hb:Below wr.heap.size wr w'):PSt w w' gp gs n t vi vd Ls S vW LW W wr.heap.size w'.heap.size:=
 ⟨h.sen.fresh hn hb,h.box.below hb h.box.lt,h.low⟩
theorem PSt.turn {w wr} {w':World} {gp gs n t vi vd vi' vd' Ls S vW LW W lo hi} (h:PSt w wr gp gs n t vi vd Ls S vW LW W lo hi) (hg:wr.grownBy w' (some gp)) (hb:PBox w' gp n t vi' vd' vW (.slice (some ⟨gs,0,none⟩) n n)):PSt w w' gp gs n t vi' vd' Ls S vW LW W lo hi:=by
 have hs:=h.sen;refine ⟨⟨hs.seen.grown hg (h.box.off hs.seen.own eVP) (λi hi=>h.box.off (hs.seen.row i hi) eUP),hs.len,hs.wires.grown hg (h.box.off hs.wires.own eVP) (λi hi=>h.box.off (hs.wires.row i hi) eUP),hs.apt,hs.out,hs.far,hs.gl,Nat.le_trans hs.hi hg.size,hs.bel.grown hg hs.bel.size (λq hq=>?_)⟩,hb,h.low⟩
 obtain rfl:=Option.some.inj hq;exact h.low
theorem PSt.put {w wr} {w7:World} {gp gs n t} {j:Nat} {vi vd Ls S vW} {v7:Value} {LW W lo hi} {row:List Int} (h:PSt w wr gp gs n t vi vd Ls S vW LW W lo hi) (hj:j<n) (ho:w7.ownsRow w.heap.size 70 1 v7 row.length (row.map (Value.int .u64))) (hg:wr.grownBy w7 (Ls.getD j (.slice none 0 0)).ownBlock) (hat:v7.ownBlock=(Ls.getD j (.slice none 0 0)).ownBlock\/∃k,v7.ownBlock=some k/\wr.heap.size<=k):
  PSt w (w7.setCell ⟨gs,j,none⟩ v7) gp gs n t vi vd (Ls.set j v7) (S.set j row) vW LW W lo hi:=by
 have aa:=h.sen.seen.row j (by rw [h.sen.len];exact hj);have ab:=h.box.grown hg (h.box.off' aa eUP);exact ⟨h.sen.put hj ho hg hat,ab.grown (grown_set w7 gs j v7) (h.box.off' h.sen.seen.own eVP),h.low⟩
def Seen (w wr:World) (gs j:Nat) (u:Value) (row xs:List Int) (w':World):Prop:=
 ∃w7 v7,w'=w7.setCell ⟨gs,j,none⟩ v7/\w7.ownsRow w.heap.size 70 1 v7 (row++xs).length ((row++xs).map (Value.int .u64))/\wr.grownBy w7 u.ownBlock/\(v7.ownBlock=u.ownBlock\/∃k,v7.ownBlock=some k/\wr.heap.size<=k)
theorem PSt.seen {w wr w' gp gs n t} {j:Nat} {vi vd Ls} {S X:Nat->List Int} {vW LW W lo hi} (h:PSt w wr gp gs n t vi vd Ls (sgx S X n j) vW LW W lo hi) (hj:j<n) (hs:Seen w wr gs j (Ls.getD j (.slice none 0 0)) (S j) (X j) w'):
  (∃Ls',PSt w w' gp gs n t vi vd Ls' (sgx S X n (j+1)) vW LW W lo hi)/\∀(B2 z k:Nat) (E:TypeId) (v:Value) (xs:List Value),wr.ownsRow B2 E z v k xs->Btw lo hi v->w'.ownsRow B2 E z v k xs:=by
 obtain ⟨w7,v7,rfl,ho,hg,aa⟩:=hs;have hp:=h.put hj ho hg aa;rw [sgx_set] at hp;exact ⟨⟨_,hp⟩,λB2 z k E v xs hx hv=>h.sen.keep hj hx hv hg⟩
theorem PSt.seen2 {w wr w' gp gs n t} {j:Nat} {vi vd Ls} {S X:Nat->List Int} {vW LW W lo hi lo2 hi2} (h:PSt w wr gp gs n t vi vd Ls (sgx S X n j) vW LW W lo hi) (h2:PSt w wr gp gs n t vi vd Ls (sgx S X n j) vW LW W lo2 hi2) (hj:j<n) (hs:Seen w wr gs j (Ls.getD j (.slice none 0 0)) (S j) (X j) w'):
  (∃Ls',PSt w w' gp gs n t vi vd Ls' (sgx S X n (j+1)) vW LW W lo hi/\PSt w w' gp gs n t vi vd Ls' (sgx S X n (j+1)) vW LW W lo2 hi2)/\(∀(B2 z k:Nat) (E:TypeId) (v:Value) (xs:List Value),wr.ownsRow B2 E z v k xs->Btw lo hi v->w'.ownsRow B2 E z v k xs)/\(∀(B2 z k:Nat) (E:TypeId) (v:Value) (xs:List Value),wr.ownsRow B2 E z v k xs->Btw lo2 hi2 v->w'.ownsRow B2 E z v k xs):=by
 obtain ⟨w7,v7,rfl,ho,hg,aa⟩:=hs;have hp:=h.put hj ho hg aa;have ab:=h2.put hj ho hg aa;rw [sgx_set] at hp ab;exact ⟨⟨_,hp,ab⟩,λB2 z k E v xs hx hv=>h.sen.keep hj hx hv hg,λB2 z k E v xs hx hv=>h2.sen.keep hj hx hv hg⟩
def Lft (w:World) (xs:List Int) (q k:Nat) (v:Value):Prop:=∃a c,v = .slice a (q-k) c/\Rd w a (q-k) c (xs.drop k)
theorem eDraw (gp n t vi vW vS) (ad:Option Addr) (d cd k:Nat) (w) (h:PBox w gp n t vi (.slice ad d cd) vW vS) (hz:ad=none->cd=0) (hk:k<=d) (hc:d<=cd):
  Calls Tryz.prog 180 #[.pointer (some ⟨gp,0,none⟩),.int .i64 (k:Int)] w λe w'=>e = .returned (.slice ad k cd)/\w'=w.setCell ⟨gp,3,none⟩ (.slice (subA ad cd k) (d-k) (cd-k)):=by
 obtain ⟨_,_,_,d3,_,_⟩:=h.cells;have hf:=h.frozen 3;have aa:=h.lt;obtain ⟨X,HX⟩:=nmd (subA ad cd k);have e1:∀W,(Instr.sliceAt 52 (.slice ad d cd) none (some (.int .i64 (k:Int))) none).run Tryz.prog W = .ok (.slice ad k cd) W:=λW=>run_subh Tryz.underlying52 infoRpt ad d cd k hz (by omega) W;have e2:∀W,(Instr.sliceAt 52 (.slice ad d cd) (some (.int .i64 (k:Int))) none none).run Tryz.prog W = .ok (.slice X (d-k) (cd-k)) W:=λW=>by rw [<- HX.out];exact run_subl Tryz.underlying52 infoRpt ad d cd k rfl hk W
 rw [HX.out];clear h;go_enter Tryz.func180,Tryz.ntmps180;go_wp2;go_ret;exact ⟨rfl,rfl⟩
theorem eSee {w wr gp gs n t} {j:Nat} {m c lo hi vi vd vW Ls LW} {S X:Nat->List Int} {W a} (h:PSt w wr gp gs n t vi vd Ls (sgx S X n j) vW LW W lo hi) (hj:j<n) (hr:Rd wr a m c (X j)) (hm:0<m) (hm9:m<=9) (hl:(S j).length<=5000):
  Calls Tryz.prog 146 #[.pointer (some ⟨gp,0,none⟩),.int .i64 (j:Int),.slice a m c] wr λe w'=>e = .returned (.tuple #[])/\Seen w wr gs j (Ls.getD j (.slice none 0 0)) (S j) (X j) w':=by
 have ag:=sgx_len S X n j;obtain ⟨dg,fg,lg⟩:=h.sen.seen.cell ag hj;have aa:=h.sen.seen.row j (by rw [ag];exact hj);rw [sgx_getD _ _ hj] at aa;obtain ⟨u,HU⟩:=nmd (Ls.getD j (.slice none 0 0));rw [HU.out] at dg aa ⊢;obtain ⟨l,Hl⟩:=nmd ((S j).length);rw [Hl.out] at aa hl;have ad:wr.drew.ownsRow w.heap.size 70 1 u l ((S j).map (Value.int .u64)):=aa;obtain ⟨ua,uc,rfl,aq⟩:=own_slice aa;have ao:=h.sen.bel.size;obtain ⟨_,_,_,_,_,d5⟩:=h.box.cells;have ar:=h.box.lt;have ai:=hr.len;obtain ⟨Y,HY⟩:=nmd (X j);obtain ⟨Z,HZ⟩:=nmd (S j);rw [HY.out] at hr ai ⊢;rw [HZ.out] at aa ad ⊢;obtain ⟨b3,o3,rfl,_,_⟩:=hr.at (k:=0) hm;have aj:Hid (∀w7,wr.drew.grownBy w7 (Value.slice ua l uc).ownBlock->(∃x,w7.cell? ⟨gs,j,none⟩=some x)/\w7.frozen? ⟨gs,j,none⟩=false/\gp<w7.heap.size/\w7.cell? ⟨gp,5,none⟩=some (.slice (some ⟨gs,0,none⟩) n n)):=λw7 hg=>by
  have ak:wr.drew.ownsRow w.heap.size 52 1 (.slice (some ⟨gs,0,none⟩) n n) (sgx S X n j).length Ls:=h.sen.seen.own;have ae:=ak.kept hg (own_apart ad ak (by decide));rw [ag] at ae;obtain ⟨g',x,e1,_,_,_,e5⟩:=own_at ae hj;simp only [Option.some.injEq,Addr.mk.injEq,and_true] at e1;subst e1;have al:=h.box.drew.grown hg (h.box.drew.off' ad eUP);exact ⟨⟨x,e5⟩,own_frozen ae j,al.lt,al.cells.2.2.2.2.2⟩
 have am:Hid (∀g7 ab w7,w7.ownsRow w.heap.size 70 1 (.slice (some ⟨g7,0,none⟩) (l+m) ab) (l+m) ((Z++Y).map (Value.int .u64))->wr.drew.grownBy w7 (Value.slice ua l uc).ownBlock->((Value.slice (some ⟨g7,0,none⟩) (l+m) ab).ownBlock=(Value.slice ua l uc).ownBlock\/∃k,(Value.slice (some ⟨g7,0,none⟩) (l+m) ab).ownBlock=some k/\wr.drew.heap.size<=k)->
   Seen w wr gs j (.slice ua l uc) Z Y (w7.setCell ⟨gs,j,none⟩ (.slice (some ⟨g7,0,none⟩) (l+m) ab))):=λg7 ab w7 ho hg hat=>by
  have an:(Z++Y).length=l+m:=by rw [List.length_append,ai,<- HZ.out,Hl.out]
  exact ⟨w7,_,rfl,by rw [an];exact ho,⟨hg.os,hg.tape,hg.output,hg.size,hg.block⟩,hat⟩
 have au:(0:Int)<=(j:Int):=by omega
 have ap:(j:Int)<(n:Int):=by omega
 clear h aa;go_enter Tryz.func146,Tryz.ntmps146;go_region_law (refine step_appM Tryz.underlying52 info70 wr.drew rfl _ _ rfl w.heap.size _ _ _ rfl ad b3 o3 m c Y hr.drew rfl hm (by omega) (by exact ao) ?_;intro g7 ab w7 ae af ah;obtain ⟨⟨xx,dd⟩,ff,av,aw⟩:=aj.out w7 af;have ax:=World.block_lt_of_cell? w7 _ dd;have HE:Hid (Seen _ _ _ _ _ _ _ _):=am.out g7 ab w7 ae af ah;clear ae af ah)
 all_goals
  clear aj am ad;go_wp2;exact bodyPost_end (v:=.tuple #[]) (by simp [results,Tryz.results146,go_sem]) rfl ⟨rfl,HE.out⟩
def Pgt (G:List Gt) (n t:Nat) (ins ds:List Int) (q d:Nat) (w:World) (gp gs i:Nat) (vW:Value) (LW:List Value) (u:Value) (w':World):Prop:=
 ∃(vi vd:Value) (Ls:List Value) (lo hi:Nat),PSt w w' gp gs n t vi vd Ls (sgl G n t ins ds (i+1)) vW LW (ewr G n t ins ds i) lo hi/\Lft w ins q (ci G (i+1)) vi/\Lft w ds d (dwn G n t (i+1)) vd/\w'.ownsRow w.heap.size 70 1 u n ((ew G n t ins ds i).map (Value.int .u64))/\Btw lo hi u/\∀p b,(LW.getD p (.slice none 0 0)).ownBlock=some b->b<lo
theorem Lft.nil {w} {xs:List Int} {q k:Nat} {a n c} (h:Rd w a n c (xs.drop k)) (hv:n=q-k):Lft w xs q k (.slice a n c):=by
 subst hv;exact ⟨a,c,rfl,h⟩
theorem rd_lit1 (w:World) {x:Int} (hx:0<=x/\x<=18446744073709551615):Rd (w.alloc (.cells #[.int .u64 x] 70)) (some ⟨w.heap.size,0,none⟩) 1 1 [x]:=by
 refine ⟨rfl,Nat.le_refl _,by unfold maxLen;omega,λz hz=>by rw [List.mem_singleton.1 hz];exact hx,by simp,λy hy i hi=>?_⟩
 obtain rfl:=Option.some.inj hy;obtain rfl:i=0:=by omega
 rw [Addr.add_lit,cell_of_row _ _ _ _ 70 (0,0) (heap_alloc_new w _)];rfl
theorem eDeal {G:List Gt} {n t} {ins ds:List Int} {w wr gp gs} {i N:Nat} {q d lo hh vi vd vW Ls LW} (h:PSt w wr gp gs n t vi vd Ls (sgl G n t ins ds i) vW LW (ewr G n t ins ds i) lo hh) (hvi:Lft w ins q (ci G i) vi) (hvd:Lft w ds d (dwn G n t i) vd) (hg:(gt G i).k=1) (hi:i<N) (hN:N<=30) (hq:q=ci G N) (hd:d=dwn G n t N) (hn:2*t+1<=n) (hn9:n<=9):
  Calls Tryz.prog 141 #[.pointer (some ⟨gp,0,none⟩)] wr λe w'=>∃u,e = .returned u/\Pgt G n t ins ds q d w gp gs i vW LW u w':=by
 obtain ⟨a1,c1,rfl,r1⟩:=hvi;obtain ⟨a2,c2,rfl,r2⟩:=hvd;have hC:ci G i<q:=by rw [hq];exact ci_lt hi hg
 have hD:dwn G n t i+t<=d:=by
  have e:dwn G n t (i+1)=dwn G n t i+t:=by rw [dwn,if_pos hg]
  rw [<- e,hd];exact dwn_mono G n t (by omega)
 have HE:Hid (ew G n t ins ds i=dl (ins.getD (ci G i) 0 :: edr G n t ds i t) n):=ew_in hg;have am:Hid (ci G (i+1)=ci G i+1):=ci_in hg;have an:Hid (dwn G n t (i+1)=dwn G n t i+t):=by unfold Hid;rw [dwn,if_pos hg]
 obtain ⟨C,HC⟩:=nmd (ci G i);obtain ⟨D,HD⟩:=nmd (dwn G n t i);rw [HC.out] at hC r1 HE am h;rw [HD.out] at hD r2 an h;have aD:Hid ((ds.drop D).take t=edr G n t ds i t):=by unfold Hid edr;rw [HD.out]
 obtain ⟨M,HM⟩:=nmd (q-C);obtain ⟨K,HK⟩:=nmd (d-D);have hM:1<=M:=by have:=HM.out;omega
 have hK:t<=K:=by have:=HK.out;omega
 rw [HM.out] at r1;rw [HK.out] at r2;obtain ⟨b,o,x,rfl,aE,HX,aF,aG,ao⟩:=(r1.below h.sen.bel).one (k:=0) hM;rw [Nat.add_zero] at ao;have aH:Hid (ins.getD C 0=x):=by unfold Hid;rw [<- HX.out];simp
 rw [aH.out] at HE;rw [HM.out,HK.out] at h;have aV:=r1.cap;have al:=r2.cap;have ad:=r1.sub (lo:=1) (k:=M-1) (by omega);have ae:=r2.sub (lo:=t) (k:=K-t) (by omega);have r3:=r2.take hK;rw [aD.out] at r3;obtain ⟨X1,ap⟩:=nmd (subA (some ⟨b,o,none⟩) c1 1);obtain ⟨X2,aq⟩:=nmd (subA a2 c2 t);rw [ap.out] at ad;rw [aq.out] at ae;have e1:∀W,(Instr.sliceAt 52 (.slice (some ⟨b,o,none⟩) M c1) (some (.int .i64 1)) none none).run Tryz.prog W = .ok (.slice X1 (M-1) (c1-1)) W:=λW=>by rw [<- ap.out];exact run_subl Tryz.underlying52 infoRpt (some ⟨b,o,none⟩) M c1 1 rfl hM W
 obtain ⟨d0,d1,d2,d3,d4,d5⟩:=h.box.cells;have aI:=h.box.lt;have aJ:=h.box.frozen 2;have af:=h.turn (w':=wr.setCell ⟨gp,2,none⟩ (.slice X1 (M-1) (c1-1))) (grown_set _ _ _ _) (h.box.set2 _);have aW:gp<(wr.setCell ⟨gp,2,none⟩ (.slice X1 (M-1) (c1-1))).heap.size:=af.box.lt;go_enter Tryz.func141,Tryz.ntmps141;go_upto_region 3 with fail;generalize wr.setCell ⟨gp,2,none⟩ (.slice X1 (M-1) (c1-1))=W2 at *;clear d0 d1 d2 d3 d4 d5 aI aJ h ao aE e1;obtain ⟨f0,f1,_,_,_,_⟩:=af.box.cells;have ab:=af.drew;have ar:Hid (∀w3,w3=W2.drew.setCell ⟨gp,3,none⟩ (.slice X2 (K-t) (c2-t))->PSt w w3 gp gs n t (.slice X1 (M-1) (c1-1)) (.slice X2 (K-t) (c2-t)) Ls (sgx (sng G n t ins ds i) (esn G n t ins ds i) n 0) vW LW (ewr G n t ins ds i) lo hh):=λw3 e=>by
  subst e;rw [<- sgl_first];exact ab.turn (grown_set _ _ _ _) (ab.box.set3 _)
 have au:Hid (t<=4/\t<n):=⟨by omega,by omega⟩;go_region_held3 (λw'=>w'.cell? ⟨gp,0,none⟩=some (.int .i64 (n:Int))/\w'.cell? ⟨gp,1,none⟩=some (.int .i64 (t:Int))) (go_keep) (first | (go_at_call 180;refine (eDraw gp n t _ _ _ a2 K c2 t _ ab.box r2.nil hK al).mono ?_;rintro en w3 ⟨rfl,ai⟩;rw [aq.out] at ai;have aa:=ar.out w3 ai;clear ai;obtain ⟨g0,g1,_,_,_,_⟩:=aa.box.cells;have aK:=aa.box.lt) | (go_at_call 65;refine (cDealB x a2 t c2 _ n _ (r3.below aa.sen.bel) aF aG au.out.1 au.out.2 hn9).mono ?_;rintro en w5 ⟨v,rfl,ho,av⟩;have ag:=aa.fresh (by omega) av;obtain ⟨i0,i1,_,_,_,_⟩:=ag.box.cells;have aL:=ag.box.lt))
 all_goals
  obtain ⟨gv,cv,rfl,_,_,aX,aB⟩:=own_atZ ho (by omega);unfold maxLen at aB;rw [<- HE.out] at ho;have aw:Hid (Btw w3.heap.size w5.heap.size (.slice (some ⟨gv,0,none⟩) n cv)):=λb hb=>ho.lt b hb;have ax:=own_baseV ho aa.sen.bel.size;have aM:Hid (∀p b,(LW.getD p (.slice none 0 0)).ownBlock=some b->b<w3.heap.size):=λp b hb=>(aa.sen.wires.blk p b hb).2;have aN:Hid (Lft w ins q (ci G (i+1)) (.slice X1 (M-1) (c1-1))):=by
   unfold Hid;rw [am.out];refine Lft.nil ?_ (by have:=HM.out;omega);rw [List.drop_drop,List.take_of_length_le (by have:=r1.len;simp at this;simp;omega)] at ad;exact ad
  have aO:Hid (Lft w ds d (dwn G n t (i+1)) (.slice X2 (K-t) (c2-t))):=by
   unfold Hid;rw [an.out];refine Lft.nil ?_ (by have:=HK.out;omega);rw [List.drop_drop,List.take_of_length_le (by have:=r2.len;simp at this;simp;omega)] at ae;exact ae
  clear ho av aa r1 r2 r3 ad ae af ab ar g0 g1 aK i0 i1 aL f0 f1;go_wp2;go_loopw [39] (λs wq=>∃(j:Nat) (Ls:List Value),j<=n/\s = .int .i64 j/\PSt w wq gp gs n t (.slice X1 (M-1) (c1-1)) (.slice X2 (K-t) (c2-t)) Ls (sgx (sng G n t ins ds i) (esn G n t ins ds i) n j) vW LW (ewr G n t ins ds i) w3.heap.size w5.heap.size/\wq.ownsRow w.heap.size 70 1 (.slice (some ⟨gv,0,none⟩) n cv) n ((ew G n t ins ds i).map (Value.int .u64))) (λs _=>n-(intOf s).toNat)
  case atStart=>exact ⟨0,Ls,Nat.zero_le _,rfl,ag,ax⟩
  case round=>
   clear ag ax;obtain ⟨j,Ls,hj,rfl,hP,ho⟩:=hrel;by_cases hjn:j<n
   ·obtain ⟨a6,c6,e6,ay,_⟩:=Rd.own ho (bd_u64 (ew_bd _ _ _ _ _ _));simp only [Value.slice.injEq,true_and] at e6;obtain ⟨rfl,rfl⟩:=e6;obtain ⟨b6,o6,y,eb,aY,HY,aP,aQ,az⟩:=ay.one hjn;simp only [Option.some.injEq,Addr.mk.injEq,and_true] at eb;obtain ⟨rfl,rfl⟩:=eb;rw [Nat.zero_add] at az;have aR:Hid (esn G n t ins ds i j = [y]):=by unfold Hid esn;rw [if_pos hg,HY.out]
    have aj:Below wr.heap.size wr (wr.alloc (.cells #[.int .u64 y] 70)):=bal _ _;have ak:=hP.below aj;have aA:=own_below ho aj;have rA:=rd_lit1 wr ⟨aP,aQ⟩;have aZ:=sng_bound G n t ins ds i j hn9;go_wp2_with fail;generalize wr.alloc (.cells #[.int .u64 y] 70)=wA at *;refine (eSee ak hjn (by rw [aR.out];exact rA) (by omega) (by omega) (by omega)).mono ?_;rintro e w8 ⟨rfl,hs⟩;obtain ⟨⟨aS,aT⟩,ah⟩:=ak.seen hjn hs;have aU:=ah _ _ _ _ _ _ aA aw.out;clear hP ak ho aA ay az hs ah aj rA;go_wp2;go_roundw
    case rel=>exact ⟨j+1,aS,by omega,by go_num,aT,aU⟩
    case measure=>simp [intOf];omega
   ·have aC:j=n:=by omega
    subst aC;rw [sgl_next] at hP;go_wp2;go_ret;exact ⟨_,rfl,_,_,Ls,_,_,hP,aN.out,aO.out,ho,aw.out,aM.out⟩
theorem PSt.row {G:List Gt} {ins ds:List Int} {w wr gp gs n t} {i p:Nat} {vi vd Ls S vW LW lo hi} {c:Nat} {a:Option Addr} (h:PSt w wr gp gs n t vi vd Ls S vW LW (ewr G n t ins ds i) lo hi) (hp:p<i) (e:LW.getD p (.slice none 0 0) = .slice a n c):Rd wr a n c (ew G n t ins ds p):=by
 obtain ⟨a',c',e',hr⟩:=h.sen.wires.one (ewr_len G n t ins ds i) hp (by rw [ewr_getD G n t ins ds hp];exact bd_u64 (ew_bd _ _ _ _ _ _));rw [ewr_getD G n t ins ds hp,ew_len] at e' hr;rw [e] at e';simp only [Value.slice.injEq,true_and] at e';obtain ⟨rfl,rfl⟩:=e';exact hr
theorem keep_lsv {wr w':World} {lo hi:Nat} {B} {v:Value} {L rows} (hk:∀(B2 z k:Nat) (E:TypeId) (v:Value) (xs:List Value),wr.ownsRow B2 E z v k xs->Btw lo hi v->w'.ownsRow B2 E z v k xs) (h:LsV wr B v L rows) (hv:Btw lo hi v) (hL:∀i,Btw lo hi (L.getD i (.slice none 0 0))):LsV w' B v L rows:=
 ⟨hk _ _ _ _ _ _ h.own hv,h.len,λi hi=>hk _ _ _ _ _ _ (h.row i hi) (hL i),h.inj⟩
theorem blk_off {w:World} {g B z k:Nat} {cur:Array Value} {E E':TypeId} {v:Value} {xs:List Value} (hb:w.heap[g]? = some (.cells cur E (0,0))) (ho:w.ownsRow B E' z v k xs) (hE:E≠E'):some g≠v.ownBlock:=by
 rcases ho.2 with ⟨rfl,_⟩ | ⟨g',ab,aa,rfl,_,hg,_⟩
 ·simp [Value.ownBlock]
 ·intro e;simp only [Value.ownBlock,Option.some.injEq] at e;subst e;rw [hg] at hb;simp only [Option.some.injEq,Obj.cells.injEq] at hb;exact hE hb.2.1.symm
theorem PSt.keepB {w wr w' gp gs n t} {j:Nat} {vi vd Ls S row xs vW LW W lo hi} (h:PSt w wr gp gs n t vi vd Ls S vW LW W lo hi) (hj:j<n) (hs:Seen w wr gs j (Ls.getD j (.slice none 0 0)) row xs w') {g:Nat} {cur:Array Value} {E:TypeId} (hb:wr.heap[g]? = some (.cells cur E (0,0))) (hE1:E≠70) (hE2:E≠52):w'.heap[g]? = some (.cells cur E (0,0)):=by
 obtain ⟨w7,v7,rfl,ho,hg,aa⟩:=hs;have hl:=(Array.getElem?_eq_some_iff.1 hb).1;have h7:w7.heap[g]? = some (.cells cur E (0,0)):=by rw [hg.block g hl (blk_off hb (h.sen.seen.row j (by rw [h.sen.len];exact hj)) hE1)];exact hb
 rw [(grown_set w7 gs j v7).block g (Array.getElem?_eq_some_iff.1 h7).1 (blk_off hb h.sen.seen.own hE2)];exact h7
theorem eMultiply {G:List Gt} {n t} {ins ds:List Int} {w wr gp gs} {i N:Nat} {q d lo hh} {pa pb c1 c3:Nat} {vi vd vW Ls LW} {a1 a3:Option Addr} (h:PSt w wr gp gs n t vi vd Ls (sgl G n t ins ds i) vW LW (ewr G n t ins ds i) lo hh) (hvi:Lft w ins q (ci G i) vi) (hvd:Lft w ds d (dwn G n t i) vd) (hg:(gt G i).k=5) (ha:(gt G i).a=(pa:Int)) (hpa:pa<i) (hb:(gt G i).b=(pb:Int)) (hpb:pb<i) (ea:LW.getD pa (.slice none 0 0) = .slice a1 n c1) (eb:LW.getD pb (.slice none 0 0) = .slice a3 n c3) (hi:i<N) (hN:N<=30) (hd:d=dwn G n t N) (hn:2*t+1<=n) (hn9:n<=9) {gb:Nat} {cur:Array Value} {E:TypeId} (hgb:wr.heap[gb]? = some (.cells cur E (0,0))) (hE1:E≠70) (hE2:E≠52) (hE3:E≠136):
  Calls Tryz.prog 145 #[.pointer (some ⟨gp,0,none⟩),.slice a1 n c1,.slice a3 n c3] wr λe w'=>∃u,e = .returned u/\Pgt G n t ins ds q d w gp gs i vW LW u w'/\w'.heap[gb]? = some (.cells cur E (0,0)):=by
 obtain ⟨a2,c2,rfl,r2⟩:=hvd;obtain ⟨P,HP⟩:=nmd (n*t);have aS:P<=36:=by rw [<- HP.out];exact Nat.mul_le_mul hn9 (show t<=4 by omega)
 have aE:(n:Int)*(t:Int)=(P:Int):=by rw [<- HP.out];push_cast;rfl
 have ai:Hid (dwn G n t (i+1)=dwn G n t i+P):=by unfold Hid;rw [dwn,if_neg (by omega),if_pos hg,HP.out]
 have hD:dwn G n t i+P<=d:=by
  rw [<- ai.out,hd];exact dwn_mono G n t (by omega)
 have HE:Hid (ew G n t ins ds i=tmO t (ew G n t ins ds pa) (ew G n t ins ds pb) (edr G n t ds i (n*t)) n n):=ew_mul hg ha hpa hb hpb;have ap:Hid (∀j,esn G n t ins ds i j=tmR t (ew G n t ins ds pa) (ew G n t ins ds pb) (edr G n t ds i (n*t)) n j):=λj=>by unfold esn;rw [if_neg (by omega),if_pos hg,ha,hb,Int.toNat_natCast,Int.toNat_natCast]
 have aF:Hid (Lft w ins q (ci G (i+1)) vi):=by unfold Hid;rw [ci_no (by omega)];exact hvi
 obtain ⟨D,HD⟩:=nmd (dwn G n t i);rw [HD.out] at hD r2 ai h;have aq:Hid ((ds.drop D).take P=edr G n t ds i (n*t)):=by unfold Hid edr;rw [HD.out,HP.out]
 obtain ⟨Y,HY⟩:=nmd (edr G n t ds i (n*t));rw [HY.out] at HE ap aq;obtain ⟨K,HK⟩:=nmd (d-D);have hK:P<=K:=by have:=HK.out;omega
 rw [HK.out] at r2 h;have ao:=r2.cap;have ag:=r2.sub (lo:=P) (k:=K-P) (by omega);have r3:=r2.take hK;rw [aq.out] at r3;obtain ⟨X2,ar⟩:=nmd (subA a2 c2 P);rw [ar.out] at ag;have aG:Hid (Lft w ds d (dwn G n t (i+1)) (.slice X2 (K-P) (c2-P))):=by
  unfold Hid;rw [ai.out];refine Lft.nil ?_ (by have:=HK.out;omega);rw [List.drop_drop,List.take_of_length_le (by have:=r2.len;simp at this;simp;omega)] at ag;exact ag
 obtain ⟨f0,f1,_,_,_,_⟩:=h.box.cells;have aU:=h.box.lt;have ad:=h.drew;have au:Hid (∀w3,w3=wr.drew.setCell ⟨gp,3,none⟩ (.slice X2 (K-P) (c2-P))->PSt w w3 gp gs n t vi (.slice X2 (K-P) (c2-P)) Ls (sgx (sng G n t ins ds i) (esn G n t ins ds i) n 0) vW LW (ewr G n t ins ds i) lo hh/\w3.heap[gb]? = some (.cells cur E (0,0))):=λw3 e=>by
  subst e;rw [<- sgl_first];refine ⟨ad.turn (grown_set _ _ _ _) (ad.box.set3 _),?_⟩
  rw [(grown_set wr.drew gp 3 _).block gb (Array.getElem?_eq_some_iff.1 hgb).1 (λe=>?_)]
  ·exact hgb
  ·obtain rfl:=Option.some.inj e;have aj:wr.heap[gb]? = _:=ad.box;rw [hgb] at aj;simp only [Option.some.injEq,Obj.cells.injEq] at aj;exact hE3 aj.2.1
 have aV:IntKind.i64.wrap (P:Int)=(P:Int):=by rw [IntKind.wrap_i64];omega
 have aH:Hid (Gme (t:Int) n n P 0):=.inr ⟨⟨by omega,by omega⟩,.inr ⟨⟨⟨by omega,hn9⟩,rfl⟩,.inr ⟨by omega,.inr ⟨by rw [aE],rfl⟩⟩⟩⟩;clear hvi ag h hgb;go_enter Tryz.func145,Tryz.ntmps145;go_upto_region 1 with fail;go_region_held3 (λw'=>w'.cell? ⟨gp,0,none⟩=some (.int .i64 (n:Int))/\w'.cell? ⟨gp,1,none⟩=some (.int .i64 (t:Int))) (go_keep) (first | (go_at_call 180;refine (eDraw gp n t _ _ _ a2 K c2 P _ ad.box r2.nil hK ao).mono ?_;rintro en w3 ⟨rfl,ak⟩;rw [ar.out] at ak;obtain ⟨aa,ae⟩:=au.out w3 ak;clear ak;obtain ⟨g0,g1,_,_,_,_⟩:=aa.box.cells;have aI:=aa.box.lt) | (go_at_call 108;refine (cGMul (t:Int) a1 n c1 _ a3 n c3 _ a2 P c2 _ _ (aa.row hpa ea) (aa.row hpb eb) (r3.below aa.sen.bel)).mono ?_;rintro en w5 ⟨⟨r,hr,hE,_⟩ | ⟨_,v,u,L,rfl,ho,hL⟩,al⟩;exact absurd (hE.one aH.out) hr;have ah:=aa.fresh (by omega) al;have am:=(al.block gb (Array.getElem?_eq_some_iff.1 ae).1).trans ae;obtain ⟨i0,i1,_,_,_,_⟩:=ah.box.cells;have aJ:=ah.box.lt))
 all_goals
  rw [Int.toNat_natCast] at ho hL;have af:(tmG t (ew G n t ins ds pa) (ew G n t ins ds pb) Y n).length=n:=tmG_len _ _ _ _ _;have an:=hL.own;rw [af] at an;obtain ⟨gg,av,rfl,_,_,aW,aB⟩:=own_atZ an (by omega);unfold maxLen at aB;rw [<- HE.out] at ho;have aw:Hid (Btw w3.heap.size w5.heap.size v):=λb hb=>ho.lt b hb;have aK:Hid (Btw w3.heap.size w5.heap.size (.slice (some ⟨gg,0,none⟩) n av)):=λb hb=>hL.own.lt b hb;have aL:Hid (∀p,Btw w3.heap.size w5.heap.size (L.getD p (.slice none 0 0))):=λp b hb=>hL.blk p b hb;have ax:=own_baseV ho aa.sen.bel.size;have aM:Hid (∀p b,(LW.getD p (.slice none 0 0)).ownBlock=some b->b<w3.heap.size):=λp b hb=>(aa.sen.wires.blk p b hb).2;clear ho al aa ae r2 r3 ad au g0 g1 aI i0 i1 aJ f0 f1 an;go_wp2;go_loopw [36] (λs wq=>∃(j:Nat) (Ls:List Value),j<=n/\s = .int .i64 j/\PSt w wq gp gs n t vi (.slice X2 (K-P) (c2-P)) Ls (sgx (sng G n t ins ds i) (esn G n t ins ds i) n j) vW LW (ewr G n t ins ds i) w3.heap.size w5.heap.size/\wq.ownsRow w.heap.size 70 1 v n ((ew G n t ins ds i).map (Value.int .u64))/\LsV wq w3.heap.size (.slice (some ⟨gg,0,none⟩) n av) L (tmG t (ew G n t ins ds pa) (ew G n t ins ds pb) Y n)/\Hid (wq.heap[gb]? = some (.cells cur E (0,0)))) (λs _=>n-(intOf s).toNat)
  case atStart=>exact ⟨0,Ls,Nat.zero_le _,rfl,ah,ax,hL,am⟩
  case round=>
   clear ah ax hL am;obtain ⟨j,Ls,hj,rfl,hP,ho,hL,ay⟩:=hrel;by_cases hjn:j<n
   ·obtain ⟨az,_,aN⟩:=hL.cell af hjn;obtain ⟨a6,c6,aA,r6⟩:=hL.one af hjn (by rw [tmG_getD _ _ _ _ hjn];exact bd_u64 (tmR_bd _ _ _ _ _ _));rw [tmG_getD _ _ _ _ hjn,tmR_len] at aA r6;rw [aA] at az;have aX:=sng_bound G n t ins ds i j hn9;have aY:(0:Int)<=(j:Int):=by omega
    have aT:(j:Int)<(n:Int):=by omega
    go_wp2_with fail;refine (eSee hP hjn (by rw [ap.out];exact r6) (by omega) (by omega) (by omega)).mono ?_;rintro e w8 ⟨rfl,hs⟩;obtain ⟨⟨aO,aP⟩,ab⟩:=hP.seen hjn hs;have aQ:=ab _ _ _ _ _ _ ho aw.out;have aR:=keep_lsv ab hL aK.out aL.out;have aC:Hid (w8.heap[gb]? = some (.cells cur E (0,0))):=hP.keepB hjn hs ay.out hE1 hE2;clear hP ho hL hs ab az aN r6;go_wp2;go_roundw
    case rel=>exact ⟨j+1,aO,by omega,by go_num,aP,aQ,aR,aC⟩
    case measure=>simp [intOf];omega
   ·have aD:j=n:=by omega
    subst aD;rw [sgl_next] at hP;go_wp2;go_ret;exact ⟨_,rfl,⟨_,_,Ls,_,_,hP,aF.out,aG.out,ho,aw.out,aM.out⟩,ay.out⟩
end
end Go.Proofs.YtljlioglpaogdacGreatDoor

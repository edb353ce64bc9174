/- LsV LsV2 -/
import Derived.Test.YtljlioglpaogdacGreatDoorToCheckC
import Derived.Deep.AppendLies
import Derived.Deep.RegionLaw
namespace Go.Proofs.YtljlioglpaogdacGreatDoor
set_option linter.unusedVariables false
set_option maxRecDepth 100000
set_option maxHeartbeats 8000000
section
open Crm Go.RowKit
structure LsV (w:World) (B:Nat) (v:Value) (L:List Value) (rows:List (List Int)):Prop where
 own:w.ownsRow B 52 1 v rows.length L
 len:L.length=rows.length
 row:∀i,i<rows.length->w.ownsRow B 70 1 (L.getD i (.slice none 0 0)) (rows.getD i []).length ((rows.getD i []).map (Value.int .u64))
 inj:∀i j,i<j->j<rows.length->(L.getD i (.slice none 0 0)).ownBlock=none\/(L.getD i (.slice none 0 0)).ownBlock≠(L.getD j (.slice none 0 0)).ownBlock
theorem lsv_nil (w:World) (B:Nat):LsV w B (.slice none 0 0) [] []:=⟨World.ownsRow_nil _ _ _ _,rfl,λi hi=>by simp at hi,λi j _ hj=>by simp at hj⟩
theorem LsV.below {w w' B v L rows} (h:LsV w B v L rows) (hb:Below w.heap.size w w'):LsV w' B v L rows:=
 ⟨own_below h.own hb,h.len,λi hi=>own_below (h.row i hi) hb,h.inj⟩
theorem LsV.drew {w B v L rows} (h:LsV w B v L rows):LsV w.drew B v L rows:=⟨h.own,h.len,h.row,h.inj⟩
theorem LsV.grown {w} {w':World} {B v L rows} {r:Option Nat} (h:LsV w B v L rows) (hg:w.grownBy w' r) (h1:v.ownBlock=none\/v.ownBlock≠r) (h2:∀i,i<rows.length->(L.getD i (.slice none 0 0)).ownBlock=none\/(L.getD i (.slice none 0 0)).ownBlock≠r):LsV w' B v L rows:=
 ⟨h.own.kept hg h1,h.len,λi hi=>(h.row i hi).kept hg (h2 i hi),h.inj⟩
theorem lsv_made {w:World} {B n:Nat} {v:Value} (h:w.ownsRow B 52 1 v n (madeCells (Value.slice none 0 0).cells (n*1)).toList):LsV w B v (List.replicate n (.slice none 0 0)) (List.replicate n []):=by
 have e:(Value.slice none 0 0).cells = #[Value.slice none 0 0]:=rfl;rw [e,Nat.mul_one,toList_madeCells_one] at h;have g1:∀i,(List.replicate n (Value.slice none 0 0)).getD i (.slice none 0 0) = .slice none 0 0:=λi=>by
  rw [List.getD_eq_getElem?_getD,List.getElem?_replicate];split <;> rfl
 have g2:∀i,(List.replicate n ([]:List Int)).getD i [] = []:=λi=>by
  rw [List.getD_eq_getElem?_getD,List.getElem?_replicate];split <;> rfl
 refine ⟨by rw [List.length_replicate];exact h,by simp,λi _=>?_,λi j _ _=>by rw [g1];exact .inl rfl⟩
 rw [g1,g2];exact World.ownsRow_nil _ _ _ _
theorem getD_setV {α:Type} (l:List α) (q i:Nat) (x d:α) (hq:q<l.length):(l.set q x).getD i d=if i=q then x else l.getD i d:=by
 by_cases e:i=q
 ·subst e;rw [if_pos rfl];simp [hq]
 ·rw [if_neg e];simp [show ¬ q=i from λe'=>e e'.symm]
theorem LsV.upd {w} {w7:World} {B} {g n c q:Nat} {u':Value} {L rows} {row:List Int} (h:LsV w B (.slice (some ⟨g,0,none⟩) n c) L rows) (hl:rows.length=n) (hq:q<n) (hr:w7.ownsRow B 70 1 u' row.length (row.map (Value.int .u64))) (hg:w.grownBy w7 (L.getD q (.slice none 0 0)).ownBlock) (hat:u'.ownBlock=(L.getD q (.slice none 0 0)).ownBlock\/∃k,u'.ownBlock=some k/\w.heap.size<=k):
  LsV (w7.setCell ⟨g,q,none⟩ u') B (.slice (some ⟨g,0,none⟩) n c) (L.set q u') (rows.set q row):=by
 have hL:=h.len;have hE:(52:TypeId)≠70:=by decide
 have af:(70:TypeId)≠52:=by decide
 have ad:w7.grownBy (w7.setCell ⟨g,q,none⟩ u') (some g):=grown_set _ _ _ _;have aa:=h.own.kept hg (own_apart (h.row q (by omega)) h.own af);rw [hl] at aa;have ae:∀i,i<n->i≠q->(L.getD i (.slice none 0 0)).ownBlock=none\/(L.getD i (.slice none 0 0)).ownBlock≠(L.getD q (.slice none 0 0)).ownBlock:=λi hi hiq=>by
  rcases Nat.lt_or_ge i q with e | e
  ·exact h.inj i q e (by omega)
  ·rcases h.inj q i (by omega) (by omega) with e1 | e1
   ·by_cases hn:(L.getD i (.slice none 0 0)).ownBlock=none
    ·exact .inl hn
    ·exact .inr (by rw [e1];exact hn)
   ·exact .inr (λe2=>e1 e2.symm)
 have ab:∀i,i<n->i≠q->(L.getD i (.slice none 0 0)).ownBlock=none\/(L.getD i (.slice none 0 0)).ownBlock≠u'.ownBlock:=λi hi hiq=>by
  rcases hat with e | ⟨k,e,hk⟩
  ·rw [e];exact ae i hi hiq
  ·cases hb:(L.getD i (.slice none 0 0)).ownBlock with
   | none=>exact .inl rfl
   | some p=>
    right;rw [e];intro e';have:=((h.row i (by omega)).lt p hb).2;simp only [Option.some.injEq] at e';omega
 refine ⟨by rw [List.length_set,hl];exact own_set aa q u',by simp [hL],λi hi=>?_,λi j hij hj=>?_⟩
 ·rw [List.length_set] at hi;rw [getD_setV _ _ _ _ _ (by omega),getD_setV _ _ _ _ _ (by omega)];by_cases e:i=q
  ·rw [if_pos e,if_pos e];exact hr.kept ad (own_apart aa hr hE)
  ·rw [if_neg e,if_neg e];have h7:=(h.row i (by omega)).kept hg (ae i (by omega) e);exact h7.kept ad (own_apart aa h7 hE)
 ·rw [List.length_set] at hj;rw [getD_setV _ _ _ _ _ (by omega),getD_setV _ _ _ _ _ (by omega)];by_cases e:i=q
  ·rw [if_pos e,if_neg (by omega)];rcases ab j (by omega) (by omega) with e1 | e1
   ·by_cases hu:u'.ownBlock=none
    ·exact .inl hu
    ·exact .inr (by rw [e1];exact hu)
   ·exact .inr (λe2=>e1 e2.symm)
  ·rw [if_neg e];by_cases e':j=q
   ·rw [if_pos e'];exact ab i (by omega) e
   ·rw [if_neg e'];exact h.inj i j hij hj
theorem own_baseV {w:World} {B B' n z:Nat} {E:TypeId} {v:Value} {xs:List Value} (h:w.ownsRow B E z v n xs) (hB:B'<=B):w.ownsRow B' E z v n xs:=by
 refine ⟨h.1,?_⟩
 rcases h.2 with h1 | ⟨g,aa,ab,e,hb,h2⟩
 ·exact .inl h1
 ·exact .inr ⟨g,aa,ab,e,Nat.le_trans hB hb,h2⟩
theorem LsV.base {w B} {B':Nat} {v L rows} (h:LsV w B v L rows) (hB:B'<=B):LsV w B' v L rows:=
 ⟨own_baseV h.own hB,h.len,λi hi=>own_baseV (h.row i hi) hB,h.inj⟩
theorem LsV.cell {w B} {n c g q:Nat} {L rows} (h:LsV w B (.slice (some ⟨g,0,none⟩) n c) L rows) (hl:rows.length=n) (hq:q<n):w.cell? ⟨g,q,none⟩=some (L.getD q (.slice none 0 0))/\w.frozen? ⟨g,q,none⟩=false/\g<w.heap.size:=by
 have ho:=h.own;rw [hl] at ho;have hL:=h.len;obtain ⟨g',u,e1,e2,e3,e4,e5⟩:=own_at ho hq;simp only [Option.some.injEq,Addr.mk.injEq,and_true] at e1;subst e1;refine ⟨?_,own_frozen ho q,e3⟩
 rw [e5,<- e4];simp [List.getElem?_eq_getElem (show q<L.length by omega)]
theorem LsV.one {w B} {n q:Nat} {v L rows} (h:LsV w B v L rows) (hl:rows.length=n) (hq:q<n) (hb:∀x ∈ rows.getD q [],0<=x/\x<=18446744073709551615):∃a c,L.getD q (.slice none 0 0) = .slice a (rows.getD q []).length c/\Rd w a (rows.getD q []).length c (rows.getD q []):=by
 obtain ⟨a,c,e,hr,_⟩:=Rd.own (h.row q (by omega)) hb;exact ⟨a,c,e,hr⟩
theorem LsV.rdR {w B} {n:Nat} {v L rows} (h:LsV w B v L rows) (hl:rows.length=n) (hb:∀i,i<n->∀x ∈ rows.getD i [],0<=x/\x<=18446744073709551615):∃a c,v = .slice a n c/\RdR w a n c rows:=by
 have ho:=h.own;rw [hl] at ho;have hL:=h.len;rcases ho.2 with ⟨rfl,rfl⟩ | ⟨g,aa,ab,rfl,ad,hg,h1,h2,hs,ht⟩
 ·exact ⟨none,0,rfl,hl,Nat.le_refl _,Nat.zero_le _,λ_=>rfl,by simp⟩
 ·refine ⟨_,_,rfl,hl,h1,h2,by simp,λx hx i hi=>?_⟩
  obtain rfl:=Option.some.inj hx;obtain ⟨a,c,e,hr⟩:=h.one hl hi (hb i hi);refine ⟨a,c,?_,hr⟩
  have:=ho.cells (g:=g) rfl i (L.getD i (.slice none 0 0)) (by simp [List.getElem?_eq_getElem (show i<L.length by omega)]);rw [this,e]
theorem step_appL {P:Program} {T E:TypeId} (hT:P.underlying T=some (.slice E)) (info:(P.info? E).map (λi=>(i.zero,i.size,i.bytes))=some (some (.int .u64 0),1,8)) (w:World) {w1:World} {ops:Array Oper} {o:Oper} {a:Act} {K:Act->World->Prop} {Q:Exit->Act->World->Prop} {F:Prop} (hgd:o.guard=none) (s x:Operand) (ho:o.op = .call { callee:=.builtin .append,args:=#[s,x],argTypes:=#[T,T] }) (base:Nat) (v:Value) (n:Nat) (xs:List Int) (hs:a.eval s=v) (hown:w.ownsRow base E 1 v n (xs.map (Value.int .u64))) (y:Int) (hx:a.eval x = .slice (some ⟨w.heap.size,0,none⟩) 1 1) (hw1:w1=w.alloc (.cells #[.int .u64 y] E)) (hn:n<=1000000) (hbase:base<=w.heap.size) (h:∀g cap w',w'.ownsRow base E 1 (.slice (some ⟨g,0,none⟩) (n+1) cap) (n+1) ((xs ++ [y]).map (Value.int .u64))->w.grownBy w' v.ownBlock->((Value.slice (some ⟨g,0,none⟩) (n+1) cap).ownBlock=v.ownBlock\/∃k,(Value.slice (some ⟨g,0,none⟩) (n+1) cap).ownBlock=some k/\w.heap.size<=k)->K (a.put o.dst (.slice (some ⟨g,0,none⟩) (n+1) cap)) w'):
  if Region.wanted o (yielded ops a.tmps)=true then Oper.wp P o a w1 K Q else F:=by
 subst hw1;obtain ⟨i0,hi,ad,ae,af⟩:=info_parts info;refine step_append_lies _ hgd s x T ho base E i0 (.int .u64 0) 1 8 hT hi ad ae af rfl (by decide) v n _ hs (hown.alloc _) ⟨w.heap.size,0,none⟩ 1 1 [.int .u64 y] hx rfl ?_ ?_ (by decide) (by unfold maxLen;omega) (by omega) (by simp;omega) _ rfl ?_
 ·intro j u hj;match j,hj with
  | 0,hj=>simp at hj;subst hj;simp [Addr.add]
 ·intro u hu;simp at hu;subst hu;rfl
 ·intro g cap w' ab aa h4 _;refine h g cap w' (by rw [List.map_append];exact ab) ⟨aa.os,aa.tape,aa.output,?_,λk hk hne=>?_⟩ ?_
  ·have:=aa.size;simp at this;omega
  ·rw [aa.block k (by simp;omega) hne];exact Below.heap_alloc _ _ _ hk
  ·rcases h4 with e | e
   ·exact .inl (by rw [e];rfl)
   ·exact .inr ⟨g,rfl,by simp at e;omega⟩
def Apt (A B:List Value):Prop:=∀i j,(A.getD i (.slice none 0 0)).ownBlock=none\/(A.getD i (.slice none 0 0)).ownBlock≠(B.getD j (.slice none 0 0)).ownBlock
theorem Apt.symm {A B} (h:Apt A B):Apt B A:=λi j=>by
 rcases h j i with e | e
 ·by_cases hb:(B.getD i (.slice none 0 0)).ownBlock=none
  ·exact .inl hb
  ·exact .inr (by rw [e];exact hb)
 ·exact .inr (λe'=>e e'.symm)
theorem apt_rep (n:Nat) (B:List Value):Apt (List.replicate n (.slice none 0 0)) B:=λ_ _=>.inl (by
 rw [List.getD_eq_getElem?_getD,List.getElem?_replicate]
 split <;> rfl)
theorem Apt.set {A B} {q H:Nat} {u:Value} (h:Apt A B) (hq:q<A.length) (hB:∀j k,(B.getD j (.slice none 0 0)).ownBlock=some k->k<H) (hu:u.ownBlock=(A.getD q (.slice none 0 0)).ownBlock\/∃k,u.ownBlock=some k/\H<=k):Apt (A.set q u) B:=λi j=>by
 rw [getD_setV _ _ _ _ _ hq]
 by_cases e:i=q
 ·rw [if_pos e]
  rcases hu with hu | ⟨k,hu,hk⟩
  ·rw [hu];exact h q j
  ·right
   rw [hu]
   intro e'
   have:=hB j k e'.symm
   omega
 ·rw [if_neg e];exact h i j
theorem Apt.add {A B} {u:Value} (h:Apt A B) (hu:∀j,u.ownBlock=none\/u.ownBlock≠(B.getD j (.slice none 0 0)).ownBlock):Apt (A ++ [u]) B:=λi j=>by
 rw [List.getD_eq_getElem?_getD]
 rcases Nat.lt_trichotomy i A.length with e | e | e
 ·rw [List.getElem?_append_left e,<- List.getD_eq_getElem?_getD];exact h i j
 ·rw [List.getElem?_append_right (by omega),e,Nat.sub_self];exact hu j
 ·rw [List.getElem?_eq_none (by simp;omega)];exact .inl rfl
theorem LsV.blk {w B v L rows} (h:LsV w B v L rows):∀j k,(L.getD j (.slice none 0 0)).ownBlock=some k->B<=k/\k<w.heap.size:=λj k hk=>by
 rcases Nat.lt_or_ge j rows.length with hj | hj
 ·exact (h.row j hj).lt k hk
 ·rw [List.getD_eq_getElem?_getD,List.getElem?_eq_none (by rw [h.len];exact hj)] at hk
  simp [Value.ownBlock] at hk
theorem LsV.add {w} {w':World} {B v} {v' u:Value} {L rows} {row:List Int} (h:LsV w B v L rows) (hr:w.ownsRow B 70 1 u row.length (row.map (Value.int .u64))) (hnew:∀i,i<rows.length->(L.getD i (.slice none 0 0)).ownBlock=none\/(L.getD i (.slice none 0 0)).ownBlock≠u.ownBlock) (ho:w'.ownsRow B 52 1 v' (rows.length+1) (L ++ [u])) (hg:w.grownBy w' v.ownBlock):LsV w' B v' (L ++ [u]) (rows ++ [row]):=by
 have hl:=h.len;have gl:∀i,i<rows.length->(rows ++ [row]).getD i []=rows.getD i []:=λi hi=>by simp [List.getElem?_append_left hi]
 have gL:∀i,i<rows.length->(L ++ [u]).getD i (.slice none 0 0)=L.getD i (.slice none 0 0):=λi hi=>by simp [List.getElem?_append_left (show i<L.length by omega)]
 have ab:(rows ++ [row]).getD rows.length []=row:=by simp
 have aa:(L ++ [u]).getD rows.length (.slice none 0 0)=u:=by rw [<- hl];simp
 have hE:(52:TypeId)≠70:=by decide
 refine ⟨by simpa using ho,by simp [hl],λi hi=>?_,λi j hij hj=>?_⟩
 ·have ad:i<rows.length+1:=by simpa using hi
  by_cases e:i=rows.length
  ·subst e;rw [ab,aa];exact hr.kept hg (own_apart h.own hr hE)
  ·rw [gl i (by omega),gL i (by omega)];exact (h.row i (by omega)).kept hg (own_apart h.own (h.row i (by omega)) hE)
 ·have ae:j<rows.length+1:=by simpa using hj
  by_cases e:j=rows.length
  ·subst e;rw [aa,gL i hij];exact hnew i hij
  ·rw [gL i (by omega),gL j (by omega)];exact h.inj i j hij (by omega)
end
end Go.Proofs.YtljlioglpaogdacGreatDoor

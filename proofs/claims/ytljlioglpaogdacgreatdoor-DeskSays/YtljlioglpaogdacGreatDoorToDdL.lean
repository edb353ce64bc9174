/- DdB DdC DdW DdO DdYG DdK0 DdK1 DdK2 DdK3 DdK4 DdK5 DdK6 DdL -/
import Derived.Test.YtljlioglpaogdacGreatDoorToDdS
import Derived.Test.YtljlioglpaogdacGreatDoorToPrintC
import Derived.Test.YtljlioglpaogdacGreatDoorToDlElse
namespace Go.Proofs.YtljlioglpaogdacGreatDoor
set_option linter.unusedVariables false
set_option maxRecDepth 100000
set_option maxHeartbeats 8000000
section
open Crm Go.RowKit
structure Dbc (w0 w:World) (p:Nat) (G:Nat->Prop) (T:ByteArray) (S:Option Kt):Prop where
 row:∃q,w.heap[p]? = some (.cells #[.string T,.pointer q] 31 (0,0))/\((S=none/\q=none)\/∃s b,S=some s/\q=some ⟨b,0,none⟩/\Stx 142 w b G s)
 lt:∀i,G i->i<w.heap.size
 off:¬ G p
 low:∀i,G i->w0.heap.size<=i
 lp:w0.heap.size<=p
 bel:Below w0.heap.size w0 w
theorem Dbc.plt {w0 w p G T S} (h:Dbc w0 w p G T S):p<w.heap.size:=by
 obtain ⟨q,h1,_⟩:=h.row;exact (Array.getElem?_eq_some_iff.1 h1).1
theorem Dbc.text {w0 w p G T S} (h:Dbc w0 w p G T S):w.cell? ⟨p,0,none⟩=some (.string T)/\w.frozen? ⟨p,0,none⟩=false:=by
 obtain ⟨q,h1,_⟩:=h.row;exact ⟨by rw [cell_of_row w p _ _ _ (0,0) h1];rfl,frozen_of_row w p 0 _ _ h1⟩
theorem Dbc.gnx {w0 w w' p G T S} (h:Dbc w0 w p G T S) (hb:Below w.heap.size w w'):Dbc w0 w' p (Gnx G w w') T S:=by
 have hp:=h.plt;obtain ⟨q,h1,h2⟩:=h.row;refine ⟨⟨q,by rw [hb.block p hp];exact h1,or_to h2 λ⟨s,b,e1,e2,e3⟩=>⟨s,b,e1,e2,e3.below hb⟩⟩,Gnx.lt h.lt hb.size,λe=>e.elim h.off (λe=>by omega),Gnx.ge h.low h.bel.size,h.lp,btr h.bel hb⟩
theorem Dbc.same {w0 w w' p G T S} (h:Dbc w0 w p G T S) (hb:Below w.heap.size w w'):Dbc w0 w' p G T S:=by
 have hp:=h.plt;obtain ⟨q,h1,h2⟩:=h.row;exact ⟨⟨q,by rw [hb.block p hp];exact h1,or_to h2 λ⟨s,b,e1,e2,e3⟩=>⟨s,b,e1,e2,e3.same hb⟩⟩,λi g=>Nat.lt_of_lt_of_le (h.lt i g) hb.size,h.off,h.low,h.lp,btr h.bel hb⟩
theorem Dbc.put {w0 w p G T S} (h:Dbc w0 w p G T S) (U:ByteArray):Dbc w0 (w.setCell ⟨p,0,none⟩ (.string U)) p G U S/\Tch w (w.setCell ⟨p,0,none⟩ (.string U)) (λi=>G i\/i=p):=by
 have hp:=h.plt;obtain ⟨q,h1,h2⟩:=h.row;have hs:=heap_setCell_same w p 0 _ _ (.string U) h1;have ho:∀i,i≠p->(w.setCell ⟨p,0,none⟩ (.string U)).heap[i]? = w.heap[i]?:=λi hi=>heap_setCell_other w ⟨p,0,none⟩ i _ hi;have hz:(w.setCell ⟨p,0,none⟩ (.string U)).heap.size=w.heap.size:=by simp
 refine ⟨⟨⟨q,by rw [hs];rfl,or_to h2 λ⟨s,b,e1,e2,e3⟩=>⟨s,b,e1,e2,e3.keep λi hi=>ho i (λe=>h.off (e ▸ hi))⟩⟩,λi g=>by rw [hz];exact h.lt i g,h.off,h.low,h.lp,h.bel.setCell (p:=⟨p,0,none⟩) h.lp _⟩,⟨rfl,rfl,rfl,by rw [hz];exact Nat.le_refl _,λi _ hn=>ho i (λe=>hn (.inr e))⟩⟩
def Dle (w0:World) (p:Nat) (G:Nat->Prop) (T:ByteArray) (S:Option Kt) (v:ByteArray) (l:List ByteArray) (w:World) (e:Ending) (w':World):Prop:=
 ∃out T' S',e = .returned (.string out)/\Dln T S v l out T' S'/\Dbc w0 w' p (Gnx G w w') T' S'/\Tch w w' (λi=>G i\/i=p)
theorem Dle.quiet {w0 w w' p G T S v l out} (h:Dbc w0 w p G T S) (hb:Below w.heap.size w w') (hd:Dln T S v l out T S):Dle w0 p G T S v l w (.returned (.string out)) w':=
 ⟨out,T,S,rfl,hd,h.gnx hb,Tch.of_below hb⟩
theorem Dle.text {w0 w w1 p G T U S v l out} (h:Dbc w0 w p G T S) (hb:Below w.heap.size w w1) (hd:Dln T S v l out U S):Dle w0 p G T S v l w (.returned (.string out)) (w1.setCell ⟨p,0,none⟩ (.string U)):=by
 obtain ⟨h1,_⟩:=(h.gnx hb).put U;obtain ⟨_,h2⟩:=(h.same hb).put U;have e:Gnx G w (w1.setCell ⟨p,0,none⟩ (.string U))=Gnx G w w1:=by
  funext i;unfold Gnx;simp
 exact ⟨out,U,S,rfl,hd,by rw [e];exact h1,((Tch.of_below hb).wide (λi g=>g)).same h2⟩
theorem Dle.keys {w0 w w1 w2} {w3:World} {p b} {n t:Nat} {G H T S v l out} (h:Dbc w0 w p G T S) (hb:Below w.heap.size w w1) (hb2:Below w1.heap.size w1 w2) (hs:Stx 142 w2 b H (k0 n t)) (hH:∀i,H i->w1.heap.size<=i) (e3:w3=w2.setCell ⟨p,1,none⟩ (.pointer (some ⟨b,0,none⟩))) (hd:Dln T S v l out T (some (k0 n t))):Dle w0 p G T S v l w (.returned (.string out)) w3:=by
 subst e3;have aa:=btr hb hb2;have hp:=h.plt;have ad:=(h.same aa).plt;have ae:=hb.size;have af:=hb2.size;obtain ⟨q,h1,_⟩:=(h.same aa).row;have ab:=heap_setCell_same w2 p 1 _ _ (.pointer (some ⟨b,0,none⟩)) h1;have ho:∀i,i≠p->(w2.setCell ⟨p,1,none⟩ (.pointer (some ⟨b,0,none⟩))).heap[i]? = w2.heap[i]?:=λi hi=>heap_setCell_other w2 ⟨p,1,none⟩ i _ hi;have hz:(w2.setCell ⟨p,1,none⟩ (.pointer (some ⟨b,0,none⟩))).heap.size=w2.heap.size:=by simp
 have ht:Tch w (w2.setCell ⟨p,1,none⟩ (.pointer (some ⟨b,0,none⟩))) (λi=>G i\/i=p):=⟨aa.os,aa.tape,aa.output,by rw [hz];exact aa.size,λi hi hn=>(ho i (λe=>hn (.inr e))).trans (aa.block i hi)⟩;refine ⟨out,T,some (k0 n t),rfl,hd,⟨⟨some ⟨b,0,none⟩,by rw [ab];rfl,.inr ⟨k0 n t,b,rfl,rfl,(hs.keep λi hi=>ho i (λe=>by have:=hH i hi;omega)).mono (λi hi=>.inr ⟨by have:=hH i hi;omega,by rw [hz];exact hs.2 i hi⟩) (λi g=>?_)⟩⟩,λi g=>?_,λe=>e.elim h.off (λe=>by omega),Gnx.ge h.low h.bel.size,h.lp,?_⟩,ht⟩
 ·exact Gnx.lt h.lt (by rw [hz];exact aa.size) i g
 ·exact Gnx.lt h.lt (by rw [hz];exact aa.size) i g
 ·exact (btr h.bel aa).setCell (p:=⟨p,1,none⟩) h.lp _
def Kdl (b:Nat) (G:Nat->Prop) (s:Kt) (v:ByteArray) (N:List Int) (w:World) (e:Ending) (w':World):Prop:=
 ∃out s',e = .returned (.string out)/\Dky v N s out s'/\Kst w' b (Gnx G w w') s'/\Tch w w' G
theorem Dle.key {w0 w w1 w' p} {b:Nat} {G T} {s:Kt} {v} {l:List ByteArray} {N e} (h:Dbc w0 w p G T (some s)) (hrow:w.heap[p]? = some (.cells #[.string T,.pointer (some ⟨b,0,none⟩)] 31 (0,0))) (hb:Below w.heap.size w w1) (hk:Kdl b G s v N w1 e w') (hd:∀out s',Dky v N s out s'->Dln T (some s) v l out T (some s')):Dle w0 p G T (some s) v l w e w':=by
 obtain ⟨out,s',rfl,h1,h2,h3⟩:=hk;have hz:=hb.size;have ht:Tch w w' G:=(Tch.of_below hb).same h3;refine ⟨out,T,some s',rfl,hd out s' h1,⟨⟨_,(ht.block p h.plt h.off).trans hrow,.inr ⟨s',b,rfl,rfl,Stx.mono h2 (λi g=>g.elim .inl (λg=>.inr ⟨by omega,g.2⟩)) (Gnx.lt h.lt ht.size)⟩⟩,Gnx.lt h.lt ht.size,λe=>e.elim h.off (λe=>by have:=h.plt;omega),Gnx.ge h.low h.bel.size,h.lp,ht.below h.bel h.low h.bel.size⟩,ht.wide λi g=>.inl g⟩
theorem Rd.tch0 {w w' G a n c xs} (h:Rd w a n c xs) (ht:Tch w w' G) (hG:∀x,a=some x->¬ G x.block):Rd w' a n c xs:=by
 by_cases hn:0<n
 ·exact ht.rd h hn hG
 ·exact ⟨h.len,h.cap,h.max,h.bd,h.nil,λx hx i hi=>by omega⟩
theorem Kke.behind {p G r} {w:World} {w1 w' e} (hb:Below w.heap.size w w1) (h:Kke p G r w1 e w') (hG:∀i,G i->i<w.heap.size):Kke p G r w e w':=Kde.after hb h hG
theorem Kkt.behind {p G r} {w:World} {w1 w' e} (hb:Below w.heap.size w w1) (h:Kkt p G r w1 e w') (hG:∀i,G i->i<w.heap.size):Kkt p G r w e w':=Kte.after hb h hG
theorem shq_vDeal {le mo} (h:Shq vDeal le mo):le=2/\mo=true:=Shq.at (j:=0) h (by omega)
theorem shq_vOpen {le mo} (h:Shq vOpen le mo):le=1/\mo=true:=Shq.at (j:=1) h (by omega)
theorem shq_vClear {le mo} (h:Shq vClear le mo):le=0/\mo=false:=Shq.at (j:=2) h (by omega)
theorem shq_vShow {le mo} (h:Shq vShow le mo):le=0/\mo=false:=Shq.at (j:=3) h (by omega)
theorem shq_vRun {le mo} (h:Shq vRun le mo):le=0/\mo=true:=Shq.at (j:=4) h (by omega)
theorem shq_vKeys {le mo} (h:Shq vKeys le mo):le=2/\mo=false:=Shq.at (j:=5) h (by omega)
theorem shq_vGen {le mo} (h:Shq vGen le mo):le=0/\mo=true:=Shq.at (j:=6) h (by omega)
theorem shq_vRefr {le mo} (h:Shq vRefr le mo):le=1/\mo=true:=Shq.at (j:=7) h (by omega)
theorem shq_vTwk {le mo} (h:Shq vTwk le mo):le=2/\mo=false:=Shq.at (j:=8) h (by omega)
theorem shq_vComb {le mo} (h:Shq vComb le mo):le=4/\mo=false:=Shq.at (j:=9) h (by omega)
theorem shq_vMult {le mo} (h:Shq vMult le mo):le=2/\mo=true:=Shq.at (j:=10) h (by omega)
theorem shq_vKey {le mo} (h:Shq vKey le mo):le=1/\mo=false:=Shq.at (j:=11) h (by omega)
theorem shq_vDrop {le mo} (h:Shq vDrop le mo):le=1/\mo=false:=Shq.at (j:=12) h (by omega)
theorem fit_vDeal {l:List ByteArray} {n:Nat} (hl:l.length=n):Fit3 l n 2 true↔Syn vDeal l:=by
 rw [syn_vDeal,hl];unfold Fit3;exact ⟨λh=>⟨h.1,h.2.1⟩,λh=>⟨h.1,h.2,.inr rfl⟩⟩
theorem fit_vClear {l:List ByteArray} {n:Nat} (hl:l.length=n):Fit3 l n 0 false↔Syn vClear l:=by
 rw [syn_vClear,hl];unfold Fit3;exact ⟨λh=>⟨h.1,h.2.2.elim (λe=>by have:=h.2.1;omega) (λe=>by cases e)⟩,λh=>⟨h.1,by omega,.inl (by omega)⟩⟩
theorem fit_vShow {l:List ByteArray} {n:Nat} (hl:l.length=n):Fit3 l n 0 false↔Syn vShow l:=by
 rw [syn_vShow,hl];unfold Fit3;exact ⟨λh=>⟨h.1,h.2.2.elim (λe=>by have:=h.2.1;omega) (λe=>by cases e)⟩,λh=>⟨h.1,by omega,.inl (by omega)⟩⟩
theorem fit_vRun {l:List ByteArray} {n:Nat} (hl:l.length=n):Fit3 l n 0 true↔Syn vRun l:=by
 rw [syn_vRun,hl];unfold Fit3;exact ⟨λh=>⟨h.1,trivial⟩,λh=>⟨h.1,Nat.zero_le _,.inr rfl⟩⟩
theorem fit_vKeys {l:List ByteArray} {n:Nat} (hl:l.length=n):Fit3 l n 2 false↔Syn vKeys l:=by
 rw [syn_vKeys,hl];unfold Fit3;exact ⟨λh=>⟨h.1,h.2.2.elim (λe=>by have:=h.2.1;omega) (λe=>by cases e)⟩,λh=>⟨h.1,by omega,.inl (by omega)⟩⟩
theorem fit_vGen {l:List ByteArray} {n:Nat} (hl:l.length=n):Fit3 l n 0 true↔Syn vGen l:=by
 rw [syn_vGen,hl];unfold Fit3;exact ⟨λh=>⟨h.1,trivial⟩,λh=>⟨h.1,Nat.zero_le _,.inr rfl⟩⟩
theorem fit_vRefr {l:List ByteArray} {n:Nat} (hl:l.length=n):Fit3 l n 1 true↔Syn vRefr l:=by
 rw [syn_vRefr,hl];unfold Fit3;exact ⟨λh=>⟨h.1,h.2.1⟩,λh=>⟨h.1,h.2,.inr rfl⟩⟩
theorem fit_vTwk {l:List ByteArray} {n:Nat} (hl:l.length=n):Fit3 l n 2 false↔Syn vTwk l:=by
 rw [syn_vTwk,hl];unfold Fit3;exact ⟨λh=>⟨h.1,h.2.2.elim (λe=>by have:=h.2.1;omega) (λe=>by cases e)⟩,λh=>⟨h.1,by omega,.inl (by omega)⟩⟩
theorem fit_vComb {l:List ByteArray} {n:Nat} (hl:l.length=n):Fit3 l n 4 false↔Syn vComb l:=by
 rw [syn_vComb,hl];unfold Fit3;exact ⟨λh=>⟨h.1,h.2.2.elim (λe=>by have:=h.2.1;omega) (λe=>by cases e)⟩,λh=>⟨h.1,by omega,.inl (by omega)⟩⟩
theorem fit_vMult {l:List ByteArray} {n:Nat} (hl:l.length=n):Fit3 l n 2 true↔Syn vMult l:=by
 rw [syn_vMult,hl];unfold Fit3;exact ⟨λh=>⟨h.1,h.2.1⟩,λh=>⟨h.1,h.2,.inr rfl⟩⟩
theorem fit_vKey {l:List ByteArray} {n:Nat} (hl:l.length=n):Fit3 l n 1 false↔Syn vKey l:=by
 rw [syn_vKey,hl];unfold Fit3;exact ⟨λh=>⟨h.1,h.2.2.elim (λe=>by have:=h.2.1;omega) (λe=>by cases e)⟩,λh=>⟨h.1,by omega,.inl (by omega)⟩⟩
theorem fit_vDrop {l:List ByteArray} {n:Nat} (hl:l.length=n):Fit3 l n 1 false↔Syn vDrop l:=by
 rw [syn_vDrop,hl];unfold Fit3;exact ⟨λh=>⟨h.1,h.2.2.elim (λe=>by have:=h.2.1;omega) (λe=>by cases e)⟩,λh=>⟨h.1,by omega,.inl (by omega)⟩⟩
theorem dKcGen (v:ByteArray) (a n c w) (q0:(v.toList == [103,101,110])=true):
  Calls Tryz.prog 24 #[.string v,.slice a n c] w λe w'=>e = .returned (.func (.func 48) #[] #[.pointer (some ⟨w.heap.size,0,none⟩)])/\w'=w.alloc (.cells #[.slice a n c] 52):=by
 go_enter Tryz.func24,Tryz.ntmps24;go_wp2;go_ret;exact ⟨rfl,rfl⟩
theorem dKcRefr (v:ByteArray) (a n c w) (q0:(v.toList == [103,101,110])=false) (q1:(v.toList == [114,101,102,114,101,115,104])=true):
  Calls Tryz.prog 24 #[.string v,.slice a n c] w λe w'=>e = .returned (.func (.func 51) #[] #[.pointer (some ⟨w.heap.size,0,none⟩)])/\w'=w.alloc (.cells #[.slice a n c] 52):=by
 go_enter Tryz.func24,Tryz.ntmps24;go_wp2;go_ret;exact ⟨rfl,rfl⟩
theorem dKcTwk (v:ByteArray) (a n c w) (q0:(v.toList == [103,101,110])=false) (q1:(v.toList == [114,101,102,114,101,115,104])=false) (q2:(v.toList == [116,119,101,97,107])=true):
  Calls Tryz.prog 24 #[.string v,.slice a n c] w λe w'=>e = .returned (.func (.func 54) #[] #[.pointer (some ⟨w.heap.size,0,none⟩)])/\w'=w.alloc (.cells #[.slice a n c] 52):=by
 go_enter Tryz.func24,Tryz.ntmps24;go_wp2;go_ret;exact ⟨rfl,rfl⟩
theorem dKcComb (v:ByteArray) (a n c w) (q0:(v.toList == [103,101,110])=false) (q1:(v.toList == [114,101,102,114,101,115,104])=false) (q2:(v.toList == [116,119,101,97,107])=false) (q3:(v.toList == [99,111,109,98,105,110,101])=true):
  Calls Tryz.prog 24 #[.string v,.slice a n c] w λe w'=>e = .returned (.func (.func 56) #[] #[.pointer (some ⟨w.heap.size,0,none⟩)])/\w'=w.alloc (.cells #[.slice a n c] 52):=by
 go_enter Tryz.func24,Tryz.ntmps24;go_wp2;go_ret;exact ⟨rfl,rfl⟩
theorem dKcMult (v:ByteArray) (a n c w) (q0:(v.toList == [103,101,110])=false) (q1:(v.toList == [114,101,102,114,101,115,104])=false) (q2:(v.toList == [116,119,101,97,107])=false) (q3:(v.toList == [99,111,109,98,105,110,101])=false) (q4:(v.toList == [109,117,108,116,105,112,108,121])=true):
  Calls Tryz.prog 24 #[.string v,.slice a n c] w λe w'=>e = .returned (.func (.func 58) #[] #[.pointer (some ⟨w.heap.size,0,none⟩)])/\w'=w.alloc (.cells #[.slice a n c] 52):=by
 go_enter Tryz.func24,Tryz.ntmps24;go_wp2;go_ret;exact ⟨rfl,rfl⟩
theorem dKcKey (v:ByteArray) (a n c w) (q0:(v.toList == [103,101,110])=false) (q1:(v.toList == [114,101,102,114,101,115,104])=false) (q2:(v.toList == [116,119,101,97,107])=false) (q3:(v.toList == [99,111,109,98,105,110,101])=false) (q4:(v.toList == [109,117,108,116,105,112,108,121])=false) (q5:(v.toList == [107,101,121])=true):
  Calls Tryz.prog 24 #[.string v,.slice a n c] w λe w'=>e = .returned (.func (.func 60) #[] #[.pointer (some ⟨w.heap.size,0,none⟩)])/\w'=w.alloc (.cells #[.slice a n c] 52):=by
 go_enter Tryz.func24,Tryz.ntmps24;go_wp2;go_ret;exact ⟨rfl,rfl⟩
theorem dKcDrop (v:ByteArray) (a n c w) (q0:(v.toList == [103,101,110])=false) (q1:(v.toList == [114,101,102,114,101,115,104])=false) (q2:(v.toList == [116,119,101,97,107])=false) (q3:(v.toList == [99,111,109,98,105,110,101])=false) (q4:(v.toList == [109,117,108,116,105,112,108,121])=false) (q5:(v.toList == [107,101,121])=false) (q6:(v.toList == [100,114,111,112])=true):
  Calls Tryz.prog 24 #[.string v,.slice a n c] w λe w'=>e = .returned (.func (.func 63) #[] #[.pointer (some ⟨w.heap.size,0,none⟩)])/\w'=w.alloc (.cells #[.slice a n c] 52):=by
 go_enter Tryz.func24,Tryz.ntmps24;go_wp2;go_ret;exact ⟨rfl,rfl⟩
theorem dKcNil (v:ByteArray) (a n c w) (q0:(v.toList == [103,101,110])=false) (q1:(v.toList == [114,101,102,114,101,115,104])=false) (q2:(v.toList == [116,119,101,97,107])=false) (q3:(v.toList == [99,111,109,98,105,110,101])=false) (q4:(v.toList == [109,117,108,116,105,112,108,121])=false) (q5:(v.toList == [107,101,121])=false) (q6:(v.toList == [100,114,111,112])=false):
  Calls Tryz.prog 24 #[.string v,.slice a n c] w λe w'=>e = .returned (.nilFunc)/\w'=w.alloc (.cells #[.slice a n c] 52):=by
 go_enter Tryz.func24,Tryz.ntmps24;go_wp2;go_ret;exact ⟨rfl,rfl⟩
theorem Fit3.len {l n le} (h:Fit3 l n le false):n=le:=by
 have h1:=h.2.1;rcases h.2.2 with e | e
 ·omega
 ·cases e
theorem eqIn_func (W:World) (d:Nat) (f:Fn) (x y:Array Value):(Op.equalIn (d+1) 58 (.func f x y) .nilFunc).run Tryz.prog W = .ok false W:=by
 simp [Op.equalIn,run_underlying Tryz.underlying58]
theorem eqIn_nil (W:World) (d:Nat):(Op.equalIn (d+1) 58 .nilFunc .nilFunc).run Tryz.prog W = .ok true W:=by
 simp [Op.equalIn,run_underlying Tryz.underlying58]
theorem eq_func (W:World) (f:Fn) (x y:Array Value):(Op.equal 58 (.func f x y) .nilFunc).run Tryz.prog W = .ok false W:=eqIn_func W 9999 f x y
theorem eq_nilF (W:World):(Op.equal 58 .nilFunc .nilFunc).run Tryz.prog W = .ok true W:=eqIn_nil W 9999
theorem neq_func (W:World) (f:Fn) (x y:Array Value):(binOp .neq 58 (.func f x y) .nilFunc).run Tryz.prog W = .ok (.bool true) W:=by
 simp only [binOp];simp [eq_func W f x y]
theorem neq_nil (W:World):(binOp .neq 58 .nilFunc .nilFunc).run Tryz.prog W = .ok (.bool false) W:=by
 simp only [binOp];simp [eq_nilF W]
theorem box_new (w:World) (x:Value):Below w.heap.size w (w.alloc (.cells #[x] 52))/\(w.alloc (.cells #[x] 52)).cell? ⟨w.heap.size,0,none⟩=some x:=by
 refine ⟨(Below.refl _ _).alloc (Nat.le_refl _) _,?_⟩
 rw [cell_of_row _ w.heap.size _ _ _ (0,0) (heap_alloc_new w _)];rfl
theorem Blk.belowB {w w' g L} (h:Blk w g L) (hb:Below w.heap.size w w'):Blk w' g L:=by
 unfold Blk;rw [hb.block g h.lt];exact h
theorem par_zn {s G O n} (h:Par s G O n 0):∀g ∈ G,g.k=2\/g.k=6\/g.n=0:=by
 rcases h with ⟨_,_,_,_,h⟩ | ⟨_,⟨_,_,_,_,_,_,_,_,_,h⟩ | ⟨G0,O0,hr,⟨_,_,_,_,h⟩ | ⟨_,_,_,⟨h1,_⟩ | ⟨_,rfl,rfl⟩⟩⟩⟩
 ·omega
 ·omega
 ·omega
 ·exact absurd rfl h1
 ·exact hr.zn
theorem alk_map (G:List Gt) (N:Nat):Alk (G.map nmg) G N:=λi hi=>by
 rw [gt_map]
 exact ⟨rfl,rfl,rfl,by show nm (nm _)=_;rw [nm_nm]⟩
theorem cre_nm {G:List Gt} {O:List Int} {n m q:Nat} {r:Int} (h:∀g ∈ G,g.k=2\/g.k=6\/g.n=0):Cre (G.map nmg) O n m q r↔Cre G O n m q r:=by
 unfold Cre;rw [cke_nm h,cke_nm h,(alk_map G n).ci (Nat.le_refl n)]
theorem nde_nm {G:List Gt} {O:List Int} {N m:Nat} {n t r:Int} (h:∀g ∈ G,g.k=2\/g.k=6\/g.n=0):Nde (G.map nmg) O N m n t r↔Nde G O N m n t r:=by
 unfold Nde okc;rw [cke_nm h,cke_nm h,(alk_map G N).whl N (Nat.le_refl N)]
theorem ere_nm {G:List Gt} {O:List Int} {N m:Nat} {n t:Int} {q d:Nat} {r:Int} (h:∀g ∈ G,g.k=2\/g.k=6\/g.n=0):Ere (G.map nmg) O N m n t q d r↔Ere G O N m n t q d r:=by
 unfold Ere;rw [nde_nm h,nde_nm h,(alk_map G N).ci (Nat.le_refl N),(alk_map G N).dwn _ _ N (Nat.le_refl N)]
theorem arg_nm (g:Gt):arg (nmg g)=arg g:=by
 unfold arg nmg;simp only [nm_nm]
theorem gtx_nm (G:List Gt):∀k,gtx (G.map nmg) k=gtx G k
 | 0=>rfl
 | k+1=>by
  rw [gtx,gtx,gtx_nm G k,gt_map]
  unfold gln
  rw [arg_nm]
  rfl
def Wcr (Q:List Gt->List Int->ByteArray->Prop) (T out:ByteArray):Prop:=∃G O at_ r,Par T G O at_ r/\((r≠0/\out=erB r++(spB++itb (at_:Int)))\/(r=0/\Q G O out))
def Wce (Q:List Gt->List Int->ByteArray->Prop) (T:ByteArray) (w:World) (e:Ending) (w':World):Prop:=∃out,e = .returned (.string out)/\Wcr Q T out/\Below w.heap.size w w'
theorem dWith (F:Nat) (lb:Array Value) (eg:∀args w,(callFunc F args).run Tryz.prog w = .ok (.enter F args) w) (Q:List Gt->List Int->ByteArray->Prop) (p:Nat) (T:ByteArray) (w:World) (hcT:w.cell? ⟨p,0,none⟩=some (.string T)) (hTz:T.size<=2048) (hT:Tabs w) (hS:Shp w) (hF:∀(w1:World) (ag:Option Addr) (n cg:Nat) (ao:Option Addr) (m co:Nat) (G:List Gt) (O:List Int),Below w.heap.size w w1->Par T G O 0 0->G.length=n->O.length=m->RdG w1 ag n cg (G.map nmg)->RdI w1 ao m co O->Calls Tryz.prog F (#[.agg #[.slice ag n cg,.slice ao m co]]++lb) w1 λe w'=>∃out,e = .returned (.string out)/\Q G O out/\Below w1.heap.size w1 w'):
  Calls Tryz.prog 44 #[.pointer (some ⟨p,0,none⟩),.func (.func F) #[] lb] w (Wce Q T w):=by
 have az:p<w.heap.size:=World.block_lt_of_cell? w ⟨p,0,none⟩ hcT;have HF:=hid hF;clear hF;go_enter Tryz.func44,Tryz.ntmps44;go_wp2_with fail;refine (cParse T _ (by omega) hS).mono ?_;rintro e w1 ⟨ag,cg,ao,co,aa,r,G,O,rfl,hP,ho,hi,ai⟩;obtain ⟨b1,b2⟩:=hP.gbd;have hG:=RdG.ownA ho (List.length_map ..) (gbd_nm b1);have hI:=RdI.ownA hi b2;have aA:=hP.bd;have av:=par_at hP;have HP:=hid hP;obtain ⟨n,aj⟩:=nmd G.length;obtain ⟨m,ak⟩:=nmd O.length;rw [aj.out] at hG ⊢;rw [ak.out] at hI ⊢;have hC:=CBox.new w1 ag n cg ao m co;have af:Below w1.heap.size w1 (w1.alloc (.cells #[.slice ag n cg,.slice ao m co] 89)):=bal _ _;have hG:=hG.below af;have hI:=hI.below af;have ad:=btr ai af;obtain ⟨gc,aw⟩:=nmd w1.heap.size;clear ho hi hP b1 b2 af;go_upto_region 2 with fail;generalize w1.alloc (.cells #[.slice ag n cg,.slice ao m co] 89)=w2 at *;rw [aw.out] at hC ⊢;obtain ⟨d0,d1⟩:=hC.cells;have al:=hC.lt;have ah:=hT.below ad;clear hcT ai;by_cases hr:r=0
 ·subst hr;obtain rfl:aa=0:=by
   rcases HP.out with ⟨_,_,_,h,_⟩ | ⟨_,⟨_,_,_,_,_,_,_,_,_,h⟩ | ⟨_,_,_,⟨_,_,_,_,h⟩ | ⟨_,h,_⟩⟩⟩
   ·exact h
   ·omega
   ·omega
   ·exact h
  have am:=HF.out w2 ag n cg ao m co G O ad HP.out aj.out ak.out hG hI;clear hC hG hI ah av;go_wp2_with fail;refine am.mono ?_;rintro e w3 ⟨out,rfl,hQ,ae⟩;have HW:Hid (Wcr Q T out):=⟨G,O,0,0,HP.out,.inr ⟨rfl,hQ⟩⟩;have ab:=btr ad ae;clear am hQ d0 d1 al;go_wp2;go_ret;exact ⟨out,rfl,HW.out,ab⟩
 ·have aB:(r != 0)=true:=by rw [bne_iff_ne];exact hr
  have HW:Hid (Wcr Q T (erB r++(spB++itb (aa:Int)))):=⟨G,O,aa,r,HP.out,.inl ⟨hr,rfl⟩⟩;have an:Hid (erB r++(spB++itb (aa:Int))=(erB r++⟨#[32]⟩)++itb (aa:Int)):=by unfold Hid;rw [ByteArray.append_assoc];rfl
  rw [an.out] at HW;clear hr hC hG hI an;go_wp2_with fail;refine (dFail r _ (by omega) (by omega) ah).mono ?_;rintro e w3 ⟨rfl,ae⟩;have ab:=btr ad ae;have ap:=ah.below ae;obtain ⟨aq,ax⟩:=erj_size (r:=r) (n:=aa) (by omega) (by omega) (by omega);have ay:=erB_size r (by omega) (by omega);obtain ⟨X,HX⟩:=nmd (erB r);rw [HX.out] at HW ay aq ⊢;have a1:=add_big (P:=Tryz.prog) X ⟨#[32]⟩ (by have:=sp_size;omega);obtain ⟨Y,HY⟩:=nmd (X++⟨#[32]⟩);rw [HY.out] at a1 HW aq;clear ae ah d0 d1 al;go_wp2_with fail;refine (sItoa (aa:Int) _ (by omega) (by omega) ap).mono ?_;rintro e w4 ⟨rfl,ar⟩;have au:=btr ab ar;obtain ⟨Z,HZ⟩:=nmd (itb (aa:Int));rw [HZ.out] at HW ax ⊢;have a2:=add_big (P:=Tryz.prog) Y Z (by omega);clear ar ap ab;go_wp2;go_ret;exact ⟨_,rfl,HW.out,au⟩
def pr2 (M:List Int) (q:Nat):List (Int×Int):=(List.range q).map λi=>(M.getD (2*i) 0,M.getD (2*i+1) 0)
theorem pr2_len (M:List Int) (q:Nat):(pr2 M q).length=q:=by simp [pr2]
theorem pr2_snoc (M:List Int) (q:Nat) {x y:Int} (hx:M.getD (2*q) 0=x) (hy:M.getD (2*q+1) 0=y):pr2 M q ++ [(x,y)]=pr2 M (q+1):=by
 rw [pr2,pr2,List.range_succ,List.map_append,<- hx,<- hy];rfl
theorem pr2_getD (M:List Int) {q i:Nat} (h:i<q):(pr2 M q).getD i (0,0)=(M.getD (2*i) 0,M.getD (2*i+1) 0):=by simp [pr2,h]
theorem pr2_prk (N:List Int) (q:Nat):pr2 (N.drop 1) q=prk N q:=by
 unfold pr2 prk;refine List.map_congr_left λi _=>?_;have e:∀j,(N.drop 1).getD j 0=N.getD (j+1) 0:=λj=>by simp
 rw [e,e]
def Dpn (M:List Int) (k:Nat) (t:Int) (out:ByteArray):Prop:=(k%2=1/\out=erB 3)\/(k%2=0/\∃x B r,Rob (pr2 M (k/2)) (k/2) t x B r/\out=sad (x :: B) r)
def Dpe (M:List Int) (k:Nat) (t:Int) (w:World) (e:Ending) (w':World):Prop:=∃out,e = .returned (.string out)/\Dpn M k t out/\Below w.heap.size w w'
theorem dOpen (t:Int) (a k c M w) (h:Rd w a k c M) (hk:k<=70000) (hMb:∀x ∈ M,0<=x/\x<=9999999999) (hT:Tabs w):
  Calls Tryz.prog 66 #[.int .i64 t,.slice a k c] w (Dpe M k t w):=by
 have aT:=h.len;have aU:=h.cap;have aG:=h.max;unfold maxLen at aG;have ak:=hid hMb;clear hMb;by_cases hodd:k%2=1
 ·have aJ:(k:Int).tmod 2=1:=by rw [Int.tmod_eq_emod_of_nonneg (by omega)];omega
  have HO:Hid (Dpn M k t (erB 3)):=.inl ⟨hodd,rfl⟩;clear h hodd;go_enter Tryz.func66,Tryz.ntmps66;go_wp2_with fail;refine (dFail 3 _ (by omega) (by omega) hT).mono ?_;rintro e w1 ⟨rfl,hb⟩;obtain ⟨X,HX⟩:=nmd (erB 3);rw [HX.out] at HO ⊢;go_wp2;go_ret;exact ⟨X,rfl,HO.out,hb⟩
 have aJ:(k:Int).tmod 2=0:=by rw [Int.tmod_eq_emod_of_nonneg (by omega)];omega
 obtain ⟨Q,HQ⟩:∃Q,Hid (k=2*Q):=⟨k/2,by unfold Hid;omega⟩;have a3:2*Q<=k:=by rw [HQ.out];exact Nat.le_refl _
 have a4:k<=2*Q:=by rw [HQ.out];exact Nat.le_refl _
 have aK:Hid (∀x B r,Rob (pr2 M Q) Q t x B r->Dpn M k t (sad (x :: B) r)):=λx B r hR=>.inr ⟨by omega,x,B,r,by rw [show k/2=Q by omega];exact hR,rfl⟩;clear hodd;go_enter Tryz.func66,Tryz.ntmps66;go_wp2;go_loopw [5,6] (λvv q wr=>∃i I:Nat,i<=Q/\q = .int .i64 (I:Int)/\(2*i<=I/\I<=2*i)/\wr.ownsRow w.heap.size 74 2 vv i (shc (pr2 M i))/\Below w.heap.size w wr) (λ_ q _=>k-(intOf q).toNat)
 case atStart=>exact ⟨0,0,Nat.zero_le _,rfl,⟨by omega,by omega⟩,World.ownsRow_nil _ _ _ _,Below.refl _ _⟩
 case round=>
  obtain ⟨i,I,hi,rfl,hI,ae,ad⟩:=hrel;have aL:=ad.size;have af:=h.below ad;by_cases hlt:i<Q
  ·obtain ⟨bi,oi,xi,ei,a6,au,aV,aW,a7⟩:=af.one (show I<k by omega);subst ei;obtain ⟨bj,oj,xj,ej,a8,aM,aX,aY,a9⟩:=af.one (show I+1<k by omega);simp only [Option.some.injEq,Addr.mk.injEq,and_true] at ej;obtain ⟨rfl,rfl⟩:=ej;have aZ:0<=xi/\xi<=9999999999:=by
    rw [<- au.out];exact ak.out _ (gmem (show I<M.length by omega))
   have ba:IntKind.i64.wrap xi=xi:=by rw [IntKind.wrap_i64];omega
   have bb:IntKind.i64.wrap ((I:Int)+1)=(I:Int)+1:=by rw [IntKind.wrap_i64];omega
   have HS:Hid (pr2 M i ++ [(xi,xj)]=pr2 M (i+1)):=pr2_snoc M i (by rw [show 2*i=I by omega];exact au.out) (by rw [show 2*i+1=I+1 by omega];exact aM.out);have al:wr.drew.ownsRow w.heap.size 74 2 _ i (shc (pr2 M i)):=ae;have am:=ad.drew;have aN:(I:Int)<(k:Int):=by omega
   have a0:(I:Int)+1<(k:Int):=by omega
   have bc:(0:Int)<=(I:Int):=by omega
   have be:(0:Int)<=(I:Int)+1:=by omega
   obtain ⟨bf,bg⟩:=hI;clear af;go_wp2;go_region_law (refine step_appS Tryz.underlying72 infoSh wr.drew rfl _ _ rfl w.heap.size _ _ _ rfl al xi xj rfl rfl (by omega) (by exact aL) ?_;intro v4 w4 an av;rw [HS.out] at an;have aH:=am.trans av)
   all_goals
    clear ae al am av;go_wp2;go_roundw
    case rel=>exact ⟨i+1,I+2,by omega,by go_num,⟨by omega,by omega⟩,an,aH⟩
    case measure=>simp [intOf];omega
  ·have aO:i=Q:=by omega
   have aN:¬ ((I:Int)<(k:Int)):=by omega
   obtain ⟨sb,sc,rfl,aw⟩:=RdS.own ae (pr2_len M i) (λz hz=>by
    rw [pr2_getD M hz];have h1:=ak.out (M.getD (2*z) 0) (gmem (show 2*z<M.length by omega));have h2:=ak.out (M.getD (2*z+1) 0) (gmem (show 2*z+1<M.length by omega));exact ⟨by simp only;omega,by simp only;omega⟩)
   subst aO;clear ae af;go_wp2_with fail;refine (cOpenD t _ _ _ _ _ aw).mono ?_;rintro e w2 ⟨x,B,r,a2,k2,c2,rfl,ag,hB,ax⟩;obtain ⟨sx,sB,sL⟩:=ag.small;have ay:=ag.rb;have az:Hid (Dpn M k t (sad (x :: B) r)):=aK.out x B r ag;have aA:=hid sB;have bh:=hB.len;have bk:=hB.cap;have aP:=hB.max;unfold maxLen at aP;have ao:=btr ad ax;have aB:Below w2.heap.size w2 (w2.alloc (.cells #[.int .u64 x] 70)):=bal _ _;have ap:(w2.alloc (.cells #[.int .u64 x] 70)).ownsRow w2.heap.size 70 1 (.slice (some ⟨w2.heap.size,0,none⟩) 1 1) 1 ((x :: B.take 0).map (Value.int .u64)):=⟨rfl,Or.inr ⟨_,1,#[.int .u64 x],rfl,Nat.le_refl _,heap_alloc_new w2 _,Nat.le_refl _,by unfold maxLen;omega,rfl,rfl⟩⟩;obtain ⟨v0,aQ⟩:=nmd (Value.slice (some ⟨w2.heap.size,0,none⟩) 1 1);clear ag aw ax sB;go_upto_region 10 with fail;generalize w2.alloc (.cells #[.int .u64 x] 70)=wA at *;rw [aQ.out] at ap ⊢;go_wp2;go_loopw [10,49] (λvv q wr=>∃i:Nat,i<=k2/\q = .int .i64 (i:Int)/\wr.ownsRow w2.heap.size 70 1 vv (i+1) ((x :: B.take i).map (Value.int .u64))/\Below w2.heap.size w2 wr) (λ_ q _=>k2-(intOf q).toNat)
   case atStart=>exact ⟨0,Nat.zero_le _,rfl,ap,aB⟩
   case round=>
    clear ap aB;obtain ⟨i2,bl,rfl,aa,ab⟩:=hrel;have bm:=ab.size;by_cases hlt2:i2<k2
    ·obtain ⟨b5,o5,y,rfl,a1,aC,bo,bp,bq⟩:=(hB.below ab).one hlt2;have br:0<=y/\y<=9999999999:=by
      rw [<- aC.out];exact aA.out _ (gmem (show i2<B.length by omega))
     have bu:(i2:Int)<(k2:Int):=by omega
     have aD:Hid ((x :: B.take i2) ++ [y]=x :: B.take (i2+1)):=by
      unfold Hid;rw [List.take_add_one,<- aC.out,List.getD_eq_getElem?_getD,List.getElem?_eq_getElem (show i2<B.length by omega)];rfl
     obtain ⟨P,HP⟩:=nmd (x :: B.take i2);rw [HP.out] at aa aD;go_wp2_with (at_builtin;refine wpList_app1 Tryz.underlying52 infoU _ rfl _ _ rfl w2.heap.size _ _ P rfl aa y rfl (by omega) (by omega) ?_;intro v7 w7 ah ai;rw [aD.out] at ah;have ar:=ab.trans ai;clear ai);go_roundw
     case rel=>exact ⟨i2+1,by omega,by go_num,ah,ar⟩
     case measure=>simp [intOf];omega
    ·obtain rfl:i2=k2:=by omega
     have bv:¬ ((i2:Int)<(i2:Int)):=by omega
     rw [List.take_of_length_le (by omega)] at aa;obtain ⟨a5,c5,rfl,aj,_⟩:=Rd.own aa (λz hz=>by
      rcases List.mem_cons.1 hz with rfl | hz
      ·omega
      ·have:=aA.out z hz;omega)
     have bw:=aj.cap;have aR:=aj.max;unfold maxLen at aR;have aq:=btr ao ab;have aE:=hT.below aq;clear aa hB;go_wp2_with fail;refine (dTell _ _ _ _ r _ aj (by omega) ay.1 ay.2 aE).mono ?_;rintro e w6 ⟨rfl,aF⟩;have aI:=btr aq aF;obtain ⟨X,aS⟩:=nmd (sad (x :: B) r);rw [aS.out] at az ⊢;clear aj aF aE;go_wp2;go_ret;exact ⟨X,rfl,az.out,aI⟩
theorem Dac.key {v T:ByteArray} {l:List ByteArray} {S S':Option Kt} {out:ByteArray} (hv:v≠vCirc/\v≠vDeal/\v≠vOpen/\v≠vClear/\¬ (v=vShow\/v=vRun\/v=vWork)/\v≠vKeys) (h:(S=none/\out=erB 4/\S'=none)\/∃s s',S=some s/\S'=some s'/\Dky v (nba l) s out s'):Dac T S v l out T S':=by
 unfold Dac;rw [if_neg hv.1,if_neg hv.2.1,if_neg hv.2.2.1,if_neg hv.2.2.2.1,if_neg hv.2.2.2.2.1,if_neg hv.2.2.2.2.2];exact ⟨rfl,h⟩
theorem dAnsK (v:ByteArray) (F L:Nat) (M:Bool) (C:Nat->Prop) (eg:∀args w,(callFunc F args).run Tryz.prog w = .ok (.enter F args) w) (q_c:(v.toList == [99,105,114,99,117,105,116])=false) (q_w:(v.toList == [119,111,114,107])=false) (HNE:Hid (v≠vCirc/\v≠vDeal/\v≠vOpen/\v≠vClear/\¬ (v=vShow\/v=vRun\/v=vWork)/\v≠vKeys)) (HSQ:Hid (∀le mo,Shq v le mo->le=L/\mo=M)) (HF3:Hid (∀(l:List ByteArray) n,l.length=n->(Fit3 l n L M↔Syn v l))) (HC:Hid (∀(l:List ByteArray) n,Fit3 l n L M->C n)) (HKC:Hid (∀(a:Option Addr) (n c:Nat) (w:World),Calls Tryz.prog 24 #[.string v,.slice a n c] w λe w'=>e = .returned (.func (.func F) #[] #[.pointer (some ⟨w.heap.size,0,none⟩)])/\w'=w.alloc (.cells #[.slice a n c] 52))) (HKY:Hid (∀(w0 w:World) (b gb g:Nat) (G:Nat->Prop) (s:Kt) (k:Nat) (N:List Int),Kst w b G s->w.cell? ⟨gb,0,none⟩=some (.slice (some ⟨g,0,none⟩) k k)->Blk w g N->N.length=k->(∀x ∈ N,0<=x/\x<=9999999999)->C k->k<=100000->¬ G gb->¬ G g->(∀i,G i->w0.heap.size<=i)->Below w0.heap.size w0 w->Tabs w0->s.last<=1000000->
   Calls Tryz.prog F #[.pointer (some ⟨b,0,none⟩),.pointer (some ⟨gb,0,none⟩)] w (Kdl b G s v N w))) (w0 w p G T S a n c l) (h:Dbc w0 w p G T S) (r:RdT w a n c l) (hn:n<=70000) (hTz:T.size<=2048) (hlast:∀s,S=some s->s.last<=1000000) (hT:Tabs w0) (hS:Shp w0) (hDs:Dsp w0):
  Calls Tryz.prog 10 #[.pointer (some ⟨p,0,none⟩),.string v,.slice a n c] w (Dle w0 p G T S v l w):=by
 have ae:=r.len;have aO:=r.cap;have aC:=r.max;unfold maxLen at aC;have aE:=h.plt;have H:=hid h;have HT:Hid (∀w',Below w.heap.size w w'->Tabs w'/\Shp w'/\Dsp w'):=λw' hb=>⟨hT.below (btr h.bel hb),hS.below (btr h.bel hb),hDs.below (btr h.bel hb)⟩;have ao:Hid (Fit3 l n L M↔Syn v l):=HF3.out l n ae;clear h;go_enter Tryz.func10,Tryz.ntmps10;go_wp2_with fail;refine (dShape v _ (HT.out _ (Below.refl _ _)).2.2).mono ?_;rintro e w1 ⟨wd,le,mo,rfl,hq,ad⟩;obtain ⟨aF,aG⟩:=HSQ.out le mo hq;subst aF aG;clear hq;go_wp2_with fail;refine (dRead wd le mo _ _ _ l _ (r.below ad) (by omega)).mono ?_;rintro e w2 ⟨⟨ap,u,rfl⟩ | ⟨ai,g,rfl,hg,hB⟩,aq⟩
 ·have ab:=btr ad aq;have HD:Hid (Dln T S v l (erB 3) T S):=.inl ⟨λhs=>ap (ao.out.2 hs),rfl,rfl,rfl⟩;obtain ⟨af,_⟩:=HT.out _ ab;clear ap;go_wp2_with fail;refine (dFail 3 _ (by omega) (by omega) af).mono ?_;rintro e wz ⟨rfl,ag⟩;have am:=btr ab ag;obtain ⟨X,HX⟩:=nmd (erB 3);rw [HX.out] at HD ⊢;clear ag af;go_wp2;go_ret;exact Dle.quiet H.out am HD.out
 ·have ab:=btr ad aq;have aP:=ad.size;have ar:Hid (Syn v l):=ao.out.1 ai;have au:Hid (∀x ∈ nba l,0<=x/\x<=9999999999):=nba_bd (by rw [ae];exact ai.1);obtain ⟨N,aj⟩:=nmd (nba l);have e0:nbl l n=N:=by rw [<- aj.out,<- ae];rfl
  have aH:N.length=n:=by rw [<- aj.out,nba_len];exact ae
  have aI:Hid (C n):=HC.out l n ai;rw [e0] at hB;rw [aj.out] at au;clear ai e0;go_wp2_with fail;refine (HKC.out _ _ _ _).mono ?_;rintro e w3 ⟨rfl,av⟩;obtain ⟨ak,al⟩:=box_new w2 (.slice (some ⟨g,0,none⟩) n n);rw [<- av] at ak al;clear av;have aa:=btr ab ak;have aw:=hB.belowB ak;have aJ:=hB.lt;obtain ⟨gb,aK⟩:=nmd w2.heap.size;have ax:=ab.size;rw [aK.out] at al aJ ax ⊢;have aQ:=aa.size;have aR:=λW=>neq_func W (.func F) #[] #[.pointer (some ⟨gb,0,none⟩)];clear hB ak;obtain ⟨q,ah,⟨hS,rfl⟩ | ⟨s,b,hS,rfl,ay⟩⟩:=(H.out.same aa).row
  ·subst hS;have az:w3.cell? ⟨p,1,none⟩=some (.pointer none):=by rw [cell_of_row w3 p _ _ _ (0,0) ah];rfl
   have aD:=(H.out.same aa).plt;clear ah;have HD:Hid (Dln T none v l (erB 4) T none):=.inr ⟨ar.out,Dac.key HNE.out (.inl ⟨rfl,rfl,rfl⟩)⟩;obtain ⟨af,_⟩:=HT.out _ aa;go_wp2_with fail;refine (dFail 4 _ (by omega) (by omega) af).mono ?_;rintro e wz ⟨rfl,ag⟩;have am:=btr aa ag;obtain ⟨X,HX⟩:=nmd (erB 4);rw [HX.out] at HD ⊢;clear ag af;go_wp2;go_ret;exact Dle.quiet H.out am HD.out
  ·subst hS;have az:w3.cell? ⟨p,1,none⟩=some (.pointer (some ⟨b,0,none⟩)):=by rw [cell_of_row w3 p _ _ _ (0,0) ah];rfl
   have aD:=(H.out.same aa).plt;have aL:Hid (w.heap[p]? = some (.cells #[.string T,.pointer (some ⟨b,0,none⟩)] 31 (0,0))):=by unfold Hid;rw [<- aa.block p aE];exact ah
   have aA:Hid (∀x,w.heap.size<=x->¬ G x):=λx hx e=>by have h2:=H.out.lt _ e;omega
   have aM:=hlast s rfl;have aN:Hid (∀out s',Dky v N s out s'->Dln T (some s) v l out T (some s')):=λout s' hd=>.inr ⟨ar.out,Dac.key HNE.out (.inr ⟨s,s',rfl,rfl,by rw [aj.out];exact hd⟩)⟩;have an:=(H.out.same aa).bel;clear ah hlast;have aB:=HKY.out w0 w3 b gb g G s n N ay al aw aH au.out aI.out (by omega) (aA.out gb ax) (aA.out g (by omega)) H.out.low an hT aM;go_wp2_with fail;refine aB.mono ?_;intro e w4 hk;have HL:Hid (Dle w0 p G T (some s) v l w e w4):=Dle.key H.out aL.out aa hk aN.out;obtain ⟨out,s',rfl,_⟩:=hk;clear az ay aw al aB;go_wp2;go_ret;exact HL.out
theorem dKeyGen (w0:World) (w b) (gb g:Nat) (G s) (k:Nat) (N) (hst:Kst w b G s) (hc:w.cell? ⟨gb,0,none⟩=some (.slice (some ⟨g,0,none⟩) k k)) (hB:Blk w g N) (hlen:N.length=k) (hN:∀x ∈ N,0<=x/\x<=9999999999) (hk:0<=k) (hk5:k<=100000) (hgbG:¬ G gb) (hgG:¬ G g) (hlow:∀i,G i->w0.heap.size<=i) (hbel:Below w0.heap.size w0 w) (hT:Tabs w0) (hlast:s.last<=1000000):
  Calls Tryz.prog 48 #[.pointer (some ⟨b,0,none⟩),.pointer (some ⟨gb,0,none⟩)] w (Kdl b G s vGen N w):=by
 have HN:=hid hN;have hR:Rd w (some ⟨g,0,none⟩) k k N:=hB.whole k hlen.symm (by unfold maxLen;omega) (λx hx=>by have:=hN x hx;omega);have ab:gb<w.heap.size:=World.block_lt_of_cell? w ⟨gb,0,none⟩ hc;have ae:g<w.heap.size:=hB.lt;have af:=hid hst.lt;clear hN;have ag:Hid (∀w',Tch w w' G->w'.cell? ⟨gb,0,none⟩=some (.slice (some ⟨g,0,none⟩) k k)/\gb<w'.heap.size/\g<w'.heap.size/\Tabs w'/\Rd w' (some ⟨g,0,none⟩) k k N):=λw' ht=>by
  have hb:=ht.below hbel hlow hbel.size;have e1:∀o,w'.cell? ⟨gb,o,none⟩=w.cell? ⟨gb,o,none⟩:=λo=>cell_block (ht.block gb ab hgbG);have e2:∀o,w'.cell? ⟨g,o,none⟩=w.cell? ⟨g,o,none⟩:=λo=>cell_block (ht.block g ae hgG);exact ⟨by rw [e1];exact hc,Nat.lt_of_lt_of_le ab ht.size,Nat.lt_of_lt_of_le ae ht.size,hT.below hb,hR.tch0 ht (λx hx=>by obtain rfl:=Option.some.inj hx;exact hgG)⟩
 have ak:Hid (Dky vGen N s (sad [(kgen s N).1] (kgen s N).2.1) (kgen s N).2.2):=by unfold Hid Dky;rw [if_pos rfl];unfold Dkh;exact ⟨rfl,rfl⟩
 have aa:Hid (0<=(kgen s N).1/\(kgen s N).1<=9223372036854775807/\-9223372036854775808<=(kgen s N).2.1/\(kgen s N).2.1<=9223372036854775807):=kgen_rb _ hlast;have H:=hid hst;have HD:Hid (Tch w w.drew G):=Tch.of_below (Below.refl _ _).drew;obtain ⟨y0,y1,y2,y3,y4⟩:=ag.out w (Tch.refl _ _);clear hst hB hR;go_enter Tryz.func48,Tryz.ntmps48;go_wp2_with fail;refine (cGenK b G s _ _ _ N _ (H.out.same (Below.refl _ _)) y4 hlast).mono ?_;intro e w3 hK;obtain ⟨rfl,ah,ai⟩:=Kke.behind (Below.refl _ _) hK af.out;obtain ⟨t0,t1,t2,t3,t4⟩:=ag.out w3 ai;go_wp2_with fail;refine (dTellH _ _ _ aa.out.1 aa.out.2.1 aa.out.2.2.1 aa.out.2.2.2 t3).mono ?_;rintro e w4 ⟨rfl,ad⟩;have aj:=ai.same (Tch.of_below ad);have al:Hid (Kst w4 b (Gnx G w w4) (kgen s N).2.2):=Stx.mono (Stx.same ah ad) (λi g=>g.elim .inl (λg=>.inr ⟨g.1,Nat.lt_of_lt_of_le g.2 ad.size⟩)) (Gnx.lt af.out aj.size);clear ah;go_wp2;go_ret;exact ⟨_,_,rfl,ak.out,al.out,aj⟩
theorem dKeyRefr (w0:World) (w b) (gb g:Nat) (G s) (k:Nat) (N) (hst:Kst w b G s) (hc:w.cell? ⟨gb,0,none⟩=some (.slice (some ⟨g,0,none⟩) k k)) (hB:Blk w g N) (hlen:N.length=k) (hN:∀x ∈ N,0<=x/\x<=9999999999) (hk:1<=k) (hk5:k<=100000) (hgbG:¬ G gb) (hgG:¬ G g) (hlow:∀i,G i->w0.heap.size<=i) (hbel:Below w0.heap.size w0 w) (hT:Tabs w0) (hlast:s.last<=1000000):
  Calls Tryz.prog 51 #[.pointer (some ⟨b,0,none⟩),.pointer (some ⟨gb,0,none⟩)] w (Kdl b G s vRefr N w):=by
 have HN:=hid hN;have hR:Rd w (some ⟨g,0,none⟩) k k N:=hB.whole k hlen.symm (by unfold maxLen;omega) (λx hx=>by have:=hN x hx;omega);have ab:gb<w.heap.size:=World.block_lt_of_cell? w ⟨gb,0,none⟩ hc;have ah:g<w.heap.size:=hB.lt;have ai:=hid hst.lt;clear hN;obtain ⟨x0,ad⟩:=nmd (N.getD 0 0);have an:w.cell? ⟨g,0,none⟩=some (.int .u64 x0):=by rw [<- ad.out];exact hB.cell (by omega)
 have au:0<=x0/\x0<=9999999999:=by
  rw [<- ad.out];exact HN.out _ (gmem (show 0<N.length by omega))
 have av:IntKind.i64.wrap x0=x0:=by rw [IntKind.wrap_i64];omega
 have aw:(0:Int)<(k:Int):=by omega
 have ar:0<k:=by omega
 have aa:Hid (∀w',Tch w w' G->w'.cell? ⟨gb,0,none⟩=some (.slice (some ⟨g,0,none⟩) k k)/\w'.cell? ⟨g,0,none⟩=some (.int .u64 x0)/\gb<w'.heap.size/\g<w'.heap.size/\Tabs w'/\Rd w' (some ⟨g,0,none⟩) k k N):=λw' ht=>by
  have hb:=ht.below hbel hlow hbel.size;have e1:∀o,w'.cell? ⟨gb,o,none⟩=w.cell? ⟨gb,o,none⟩:=λo=>cell_block (ht.block gb ab hgbG);have e2:∀o,w'.cell? ⟨g,o,none⟩=w.cell? ⟨g,o,none⟩:=λo=>cell_block (ht.block g ah hgG);exact ⟨by rw [e1];exact hc,by rw [e2];exact an,Nat.lt_of_lt_of_le ab ht.size,Nat.lt_of_lt_of_le ah ht.size,hT.below hb,hR.tch0 ht (λx hx=>by obtain rfl:=Option.some.inj hx;exact hgG)⟩
 obtain ⟨N1,ae⟩:=nmd (N.drop 1);have ao:Hid (Dky vRefr N s (fne (krfr s x0 N1).1) (krfr s x0 N1).2):=by unfold Hid Dky;rw [if_neg (by decide),if_pos rfl];unfold Dkt;rw [ad.out,ae.out];exact ⟨rfl,rfl⟩
 have aj:Hid (-9223372036854775808<=(krfr s x0 N1).1/\(krfr s x0 N1).1<=9223372036854775807):=krfr_rb _ _ _;obtain ⟨sa,ak⟩:=nmd (subA (some ⟨g,0,none⟩) k 1);have hsl:∀W,(Instr.sliceAt 52 (.slice (some ⟨g,0,none⟩) k k) (some (.int .i64 1)) none none).run Tryz.prog W = .ok (.slice sa (k-1) (k-1)) W:=λW=>by
  rw [<- ak.out];exact run_subl Tryz.underlying52 infoU1 _ k k 1 rfl (by omega) W
 have ap:Hid (∀w',Rd w' (some ⟨g,0,none⟩) k k N->Rd w' sa (k-1) (k-1) N1):=λw' hr=>by
  have e:=hr.sub (lo:=1) (k:=k-1) (by omega);rw [ak.out,ae.out,List.take_of_length_le (by rw [<- ae.out,List.length_drop,hlen];exact Nat.le_refl _)] at e;exact e
 have ax:(1:Int)<=(k:Int):=by omega
 have H:=hid hst;have HD:Hid (Tch w w.drew G):=Tch.of_below (Below.refl _ _).drew;obtain ⟨y0,y1,y2,y3,y4,y5⟩:=aa.out w (Tch.refl _ _);obtain ⟨z0,z1,z2,z3,z4,z5⟩:=aa.out w.drew HD.out;clear hst hB hR;go_enter Tryz.func51,Tryz.ntmps51;go_wp2;go_region_held3 (λw'=>w'.cell? ⟨gb,0,none⟩=some (.slice (some ⟨g,0,none⟩) k k)/\w'.cell? ⟨g,0,none⟩=some (.int .u64 x0)) (go_keep) (first | (go_at_call 53;refine (cRefreshK b G s x0 _ _ _ N1 _ (H.out.same ((Below.refl _ _).drew)) ⟨by omega,by omega⟩ (ap.out _ z5)).mono ?_;intro e w3 hK;obtain ⟨rfl,al,am⟩:=Kkt.behind ((Below.refl _ _).drew) hK ai.out;obtain ⟨t0,t1,t2,t3,t4,t5⟩:=aa.out w3 am) | (go_at_call 52;refine (dDone _ _ aj.out.1 aj.out.2 t4).mono ?_;rintro e w4 ⟨rfl,af⟩;have ag:=am.same (Tch.of_below af);obtain ⟨o0,o1,o2,o3,o4,o5⟩:=aa.out w4 ag))
 all_goals
  have aq:Hid (Kst w4 b (Gnx G w w4) (krfr s x0 N1).2):=Stx.mono (Stx.same al af) (λi g=>g.elim .inl (λg=>.inr ⟨g.1,Nat.lt_of_lt_of_le g.2 af.size⟩)) (Gnx.lt ai.out ag.size);clear al;go_wp2;go_ret;exact ⟨_,_,rfl,ao.out,aq.out,ag⟩
theorem dKeyTwk (w0:World) (w b) (gb g:Nat) (G s) (k:Nat) (N) (hst:Kst w b G s) (hc:w.cell? ⟨gb,0,none⟩=some (.slice (some ⟨g,0,none⟩) k k)) (hB:Blk w g N) (hlen:N.length=k) (hN:∀x ∈ N,0<=x/\x<=9999999999) (hk:k=2) (hk5:k<=100000) (hgbG:¬ G gb) (hgG:¬ G g) (hlow:∀i,G i->w0.heap.size<=i) (hbel:Below w0.heap.size w0 w) (hT:Tabs w0) (hlast:s.last<=1000000):
  Calls Tryz.prog 54 #[.pointer (some ⟨b,0,none⟩),.pointer (some ⟨gb,0,none⟩)] w (Kdl b G s vTwk N w):=by
 have HN:=hid hN;have hR:Rd w (some ⟨g,0,none⟩) k k N:=hB.whole k hlen.symm (by unfold maxLen;omega) (λx hx=>by have:=hN x hx;omega);have ad:gb<w.heap.size:=World.block_lt_of_cell? w ⟨gb,0,none⟩ hc;have ai:g<w.heap.size:=hB.lt;have aj:=hid hst.lt;clear hN;obtain ⟨x0,ae⟩:=nmd (N.getD 0 0);have am:w.cell? ⟨g,0,none⟩=some (.int .u64 x0):=by rw [<- ae.out];exact hB.cell (by omega)
 have au:0<=x0/\x0<=9999999999:=by
  rw [<- ae.out];exact HN.out _ (gmem (show 0<N.length by omega))
 have av:IntKind.i64.wrap x0=x0:=by rw [IntKind.wrap_i64];omega
 have aw:(0:Int)<(k:Int):=by omega
 have aq:0<k:=by omega
 obtain ⟨x1,af⟩:=nmd (N.getD 1 0);have an:w.cell? ⟨g,1,none⟩=some (.int .u64 x1):=by rw [<- af.out];exact hB.cell (by omega)
 have ax:0<=x1/\x1<=9999999999:=by
  rw [<- af.out];exact HN.out _ (gmem (show 1<N.length by omega))
 have ay:IntKind.i64.wrap x1=x1:=by rw [IntKind.wrap_i64];omega
 have az:(1:Int)<(k:Int):=by omega
 have ar:1<k:=by omega
 have aa:Hid (∀w',Tch w w' G->w'.cell? ⟨gb,0,none⟩=some (.slice (some ⟨g,0,none⟩) k k)/\w'.cell? ⟨g,0,none⟩=some (.int .u64 x0)/\w'.cell? ⟨g,1,none⟩=some (.int .u64 x1)/\gb<w'.heap.size/\g<w'.heap.size/\Tabs w'/\Rd w' (some ⟨g,0,none⟩) k k N):=λw' ht=>by
  have hb:=ht.below hbel hlow hbel.size;have e1:∀o,w'.cell? ⟨gb,o,none⟩=w.cell? ⟨gb,o,none⟩:=λo=>cell_block (ht.block gb ad hgbG);have e2:∀o,w'.cell? ⟨g,o,none⟩=w.cell? ⟨g,o,none⟩:=λo=>cell_block (ht.block g ai hgG);exact ⟨by rw [e1];exact hc,by rw [e2];exact am,by rw [e2];exact an,Nat.lt_of_lt_of_le ad ht.size,Nat.lt_of_lt_of_le ai ht.size,hT.below hb,hR.tch0 ht (λx hx=>by obtain rfl:=Option.some.inj hx;exact hgG)⟩
 have ao:Hid (Dky vTwk N s (sad [(kmix s x0 x0 1 0 x1).1] (kmix s x0 x0 1 0 x1).2.1) (kmix s x0 x0 1 0 x1).2.2):=by unfold Hid Dky;rw [if_neg (by decide),if_neg (by decide),if_pos rfl];unfold Dkh;rw [ae.out,af.out];exact ⟨rfl,rfl⟩
 have ab:Hid (0<=(kmix s x0 x0 1 0 x1).1/\(kmix s x0 x0 1 0 x1).1<=9223372036854775807/\-9223372036854775808<=(kmix s x0 x0 1 0 x1).2.1/\(kmix s x0 x0 1 0 x1).2.1<=9223372036854775807):=kmix_rb _ _ _ _ _ hlast;have H:=hid hst;have HD:Hid (Tch w w.drew G):=Tch.of_below (Below.refl _ _).drew;obtain ⟨y0,y1,y2,y3,y4,y5,y6⟩:=aa.out w (Tch.refl _ _);obtain ⟨z0,z1,z2,z3,z4,z5,z6⟩:=aa.out w.drew HD.out;clear hst hB hR;go_enter Tryz.func54,Tryz.ntmps54;go_wp2;go_region_held3 (λw'=>w'.cell? ⟨gb,0,none⟩=some (.slice (some ⟨g,0,none⟩) k k)/\w'.cell? ⟨g,0,none⟩=some (.int .u64 x0)/\w'.cell? ⟨g,1,none⟩=some (.int .u64 x1)) (go_keep) (first | (go_at_call 55;refine (cTweakK b G s x0 x1 _ (H.out.same ((Below.refl _ _).drew)) ⟨by omega,by omega⟩ (by omega) (by omega) hlast).mono ?_;intro e w3 hK;obtain ⟨rfl,ak,al⟩:=Kke.behind ((Below.refl _ _).drew) hK aj.out;obtain ⟨t0,t1,t2,t3,t4,t5,t6⟩:=aa.out w3 al) | (go_at_call 49;refine (dTellH _ _ _ ab.out.1 ab.out.2.1 ab.out.2.2.1 ab.out.2.2.2 t5).mono ?_;rintro e w4 ⟨rfl,ag⟩;have ah:=al.same (Tch.of_below ag);obtain ⟨o0,o1,o2,o3,o4,o5,o6⟩:=aa.out w4 ah))
 all_goals
  have ap:Hid (Kst w4 b (Gnx G w w4) (kmix s x0 x0 1 0 x1).2.2):=Stx.mono (Stx.same ak ag) (λi g=>g.elim .inl (λg=>.inr ⟨g.1,Nat.lt_of_lt_of_le g.2 ag.size⟩)) (Gnx.lt aj.out ah.size);clear ak;go_wp2;go_ret;exact ⟨_,_,rfl,ao.out,ap.out,ah⟩
theorem dKeyComb (w0:World) (w b) (gb g:Nat) (G s) (k:Nat) (N) (hst:Kst w b G s) (hc:w.cell? ⟨gb,0,none⟩=some (.slice (some ⟨g,0,none⟩) k k)) (hB:Blk w g N) (hlen:N.length=k) (hN:∀x ∈ N,0<=x/\x<=9999999999) (hk:k=4) (hk5:k<=100000) (hgbG:¬ G gb) (hgG:¬ G g) (hlow:∀i,G i->w0.heap.size<=i) (hbel:Below w0.heap.size w0 w) (hT:Tabs w0) (hlast:s.last<=1000000):
  Calls Tryz.prog 56 #[.pointer (some ⟨b,0,none⟩),.pointer (some ⟨gb,0,none⟩)] w (Kdl b G s vComb N w):=by
 have HN:=hid hN;have hR:Rd w (some ⟨g,0,none⟩) k k N:=hB.whole k hlen.symm (by unfold maxLen;omega) (λx hx=>by have:=hN x hx;omega);have ad:gb<w.heap.size:=World.block_lt_of_cell? w ⟨gb,0,none⟩ hc;have ak:g<w.heap.size:=hB.lt;have al:=hid hst.lt;clear hN;obtain ⟨x0,ae⟩:=nmd (N.getD 0 0);have ao:w.cell? ⟨g,0,none⟩=some (.int .u64 x0):=by rw [<- ae.out];exact hB.cell (by omega)
 have aA:0<=x0/\x0<=9999999999:=by
  rw [<- ae.out];exact HN.out _ (gmem (show 0<N.length by omega))
 have aB:IntKind.i64.wrap x0=x0:=by rw [IntKind.wrap_i64];omega
 have aC:(0:Int)<(k:Int):=by omega
 have aw:0<k:=by omega
 obtain ⟨x1,af⟩:=nmd (N.getD 1 0);have ap:w.cell? ⟨g,1,none⟩=some (.int .u64 x1):=by rw [<- af.out];exact hB.cell (by omega)
 have aD:0<=x1/\x1<=9999999999:=by
  rw [<- af.out];exact HN.out _ (gmem (show 1<N.length by omega))
 have aE:IntKind.i64.wrap x1=x1:=by rw [IntKind.wrap_i64];omega
 have aF:(1:Int)<(k:Int):=by omega
 have ax:1<k:=by omega
 obtain ⟨x2,ag⟩:=nmd (N.getD 2 0);have aq:w.cell? ⟨g,2,none⟩=some (.int .u64 x2):=by rw [<- ag.out];exact hB.cell (by omega)
 have aG:0<=x2/\x2<=9999999999:=by
  rw [<- ag.out];exact HN.out _ (gmem (show 2<N.length by omega))
 have aH:IntKind.i64.wrap x2=x2:=by rw [IntKind.wrap_i64];omega
 have aI:(2:Int)<(k:Int):=by omega
 have ay:2<k:=by omega
 obtain ⟨x3,ah⟩:=nmd (N.getD 3 0);have ar:w.cell? ⟨g,3,none⟩=some (.int .u64 x3):=by rw [<- ah.out];exact hB.cell (by omega)
 have aJ:0<=x3/\x3<=9999999999:=by
  rw [<- ah.out];exact HN.out _ (gmem (show 3<N.length by omega))
 have aK:IntKind.i64.wrap x3=x3:=by rw [IntKind.wrap_i64];omega
 have aL:(3:Int)<(k:Int):=by omega
 have az:3<k:=by omega
 have aa:Hid (∀w',Tch w w' G->w'.cell? ⟨gb,0,none⟩=some (.slice (some ⟨g,0,none⟩) k k)/\w'.cell? ⟨g,0,none⟩=some (.int .u64 x0)/\w'.cell? ⟨g,1,none⟩=some (.int .u64 x1)/\w'.cell? ⟨g,2,none⟩=some (.int .u64 x2)/\w'.cell? ⟨g,3,none⟩=some (.int .u64 x3)/\gb<w'.heap.size/\g<w'.heap.size/\Tabs w'/\Rd w' (some ⟨g,0,none⟩) k k N):=λw' ht=>by
  have hb:=ht.below hbel hlow hbel.size;have e1:∀o,w'.cell? ⟨gb,o,none⟩=w.cell? ⟨gb,o,none⟩:=λo=>cell_block (ht.block gb ad hgbG);have e2:∀o,w'.cell? ⟨g,o,none⟩=w.cell? ⟨g,o,none⟩:=λo=>cell_block (ht.block g ak hgG);exact ⟨by rw [e1];exact hc,by rw [e2];exact ao,by rw [e2];exact ap,by rw [e2];exact aq,by rw [e2];exact ar,Nat.lt_of_lt_of_le ad ht.size,Nat.lt_of_lt_of_le ak ht.size,hT.below hb,hR.tch0 ht (λx hx=>by obtain rfl:=Option.some.inj hx;exact hgG)⟩
 have au:Hid (Dky vComb N s (sad [(kmix s x0 x1 x2 x3 0).1] (kmix s x0 x1 x2 x3 0).2.1) (kmix s x0 x1 x2 x3 0).2.2):=by unfold Hid Dky;(iterate 3 rewrite [if_neg (by decide)]);rw [if_pos rfl];unfold Dkh;rw [ae.out,af.out,ag.out,ah.out];exact ⟨rfl,rfl⟩
 have ab:Hid (0<=(kmix s x0 x1 x2 x3 0).1/\(kmix s x0 x1 x2 x3 0).1<=9223372036854775807/\-9223372036854775808<=(kmix s x0 x1 x2 x3 0).2.1/\(kmix s x0 x1 x2 x3 0).2.1<=9223372036854775807):=kmix_rb _ _ _ _ _ hlast;have H:=hid hst;have HD:Hid (Tch w w.drew G):=Tch.of_below (Below.refl _ _).drew;obtain ⟨y0,y1,y2,y3,y4,y5,y6,y7,y8⟩:=aa.out w (Tch.refl _ _);obtain ⟨z0,z1,z2,z3,z4,z5,z6,z7,z8⟩:=aa.out w.drew HD.out;clear hst hB hR;go_enter Tryz.func56,Tryz.ntmps56;go_wp2;go_region_held3 (λw'=>w'.cell? ⟨gb,0,none⟩=some (.slice (some ⟨g,0,none⟩) k k)/\w'.cell? ⟨g,0,none⟩=some (.int .u64 x0)/\w'.cell? ⟨g,1,none⟩=some (.int .u64 x1)/\w'.cell? ⟨g,2,none⟩=some (.int .u64 x2)/\w'.cell? ⟨g,3,none⟩=some (.int .u64 x3)) (go_keep) (first | (go_at_call 57;refine (cCombineK b G s x0 x1 x2 x3 _ (H.out.same ((Below.refl _ _).drew)) ⟨by omega,by omega⟩ ⟨by omega,by omega⟩ (by omega) (by omega) (by omega) (by omega) hlast).mono ?_;intro e w3 hK;obtain ⟨rfl,am,an⟩:=Kke.behind ((Below.refl _ _).drew) hK al.out;obtain ⟨t0,t1,t2,t3,t4,t5,t6,t7,t8⟩:=aa.out w3 an) | (go_at_call 49;refine (dTellH _ _ _ ab.out.1 ab.out.2.1 ab.out.2.2.1 ab.out.2.2.2 t7).mono ?_;rintro e w4 ⟨rfl,ai⟩;have aj:=an.same (Tch.of_below ai);obtain ⟨o0,o1,o2,o3,o4,o5,o6,o7,o8⟩:=aa.out w4 aj))
 all_goals
  have av:Hid (Kst w4 b (Gnx G w w4) (kmix s x0 x1 x2 x3 0).2.2):=Stx.mono (Stx.same am ai) (λi g=>g.elim .inl (λg=>.inr ⟨g.1,Nat.lt_of_lt_of_le g.2 ai.size⟩)) (Gnx.lt al.out aj.size);clear am;go_wp2;go_ret;exact ⟨_,_,rfl,au.out,av.out,aj⟩
theorem dKeyMult (w0:World) (w b) (gb g:Nat) (G s) (k:Nat) (N) (hst:Kst w b G s) (hc:w.cell? ⟨gb,0,none⟩=some (.slice (some ⟨g,0,none⟩) k k)) (hB:Blk w g N) (hlen:N.length=k) (hN:∀x ∈ N,0<=x/\x<=9999999999) (hk:2<=k) (hk5:k<=100000) (hgbG:¬ G gb) (hgG:¬ G g) (hlow:∀i,G i->w0.heap.size<=i) (hbel:Below w0.heap.size w0 w) (hT:Tabs w0) (hlast:s.last<=1000000):
  Calls Tryz.prog 58 #[.pointer (some ⟨b,0,none⟩),.pointer (some ⟨gb,0,none⟩)] w (Kdl b G s vMult N w):=by
 have HN:=hid hN;have hR:Rd w (some ⟨g,0,none⟩) k k N:=hB.whole k hlen.symm (by unfold maxLen;omega) (λx hx=>by have:=hN x hx;omega);have ad:gb<w.heap.size:=World.block_lt_of_cell? w ⟨gb,0,none⟩ hc;have aj:g<w.heap.size:=hB.lt;have ak:=hid hst.lt;clear hN;obtain ⟨x0,ae⟩:=nmd (N.getD 0 0);have ao:w.cell? ⟨g,0,none⟩=some (.int .u64 x0):=by rw [<- ae.out];exact hB.cell (by omega)
 have ax:0<=x0/\x0<=9999999999:=by
  rw [<- ae.out];exact HN.out _ (gmem (show 0<N.length by omega))
 have ay:IntKind.i64.wrap x0=x0:=by rw [IntKind.wrap_i64];omega
 have az:(0:Int)<(k:Int):=by omega
 have av:0<k:=by omega
 obtain ⟨x1,af⟩:=nmd (N.getD 1 0);have ap:w.cell? ⟨g,1,none⟩=some (.int .u64 x1):=by rw [<- af.out];exact hB.cell (by omega)
 have aA:0<=x1/\x1<=9999999999:=by
  rw [<- af.out];exact HN.out _ (gmem (show 1<N.length by omega))
 have aB:IntKind.i64.wrap x1=x1:=by rw [IntKind.wrap_i64];omega
 have aC:(1:Int)<(k:Int):=by omega
 have aw:1<k:=by omega
 have aa:Hid (∀w',Tch w w' G->w'.cell? ⟨gb,0,none⟩=some (.slice (some ⟨g,0,none⟩) k k)/\w'.cell? ⟨g,0,none⟩=some (.int .u64 x0)/\w'.cell? ⟨g,1,none⟩=some (.int .u64 x1)/\gb<w'.heap.size/\g<w'.heap.size/\Tabs w'/\Rd w' (some ⟨g,0,none⟩) k k N):=λw' ht=>by
  have hb:=ht.below hbel hlow hbel.size;have e1:∀o,w'.cell? ⟨gb,o,none⟩=w.cell? ⟨gb,o,none⟩:=λo=>cell_block (ht.block gb ad hgbG);have e2:∀o,w'.cell? ⟨g,o,none⟩=w.cell? ⟨g,o,none⟩:=λo=>cell_block (ht.block g aj hgG);exact ⟨by rw [e1];exact hc,by rw [e2];exact ao,by rw [e2];exact ap,Nat.lt_of_lt_of_le ad ht.size,Nat.lt_of_lt_of_le aj ht.size,hT.below hb,hR.tch0 ht (λx hx=>by obtain rfl:=Option.some.inj hx;exact hgG)⟩
 obtain ⟨N1,ag⟩:=nmd (N.drop 2);have aq:Hid (Dky vMult N s (sad [(kmul s x0 x1 N1).1] (kmul s x0 x1 N1).2.1) (kmul s x0 x1 N1).2.2):=by unfold Hid Dky;(iterate 4 rewrite [if_neg (by decide)]);rw [if_pos rfl];unfold Dkh;rw [ae.out,af.out,ag.out];exact ⟨rfl,rfl⟩
 have ab:Hid (0<=(kmul s x0 x1 N1).1/\(kmul s x0 x1 N1).1<=9223372036854775807/\-9223372036854775808<=(kmul s x0 x1 N1).2.1/\(kmul s x0 x1 N1).2.1<=9223372036854775807):=kmul_rb _ _ _ hlast;obtain ⟨sa,al⟩:=nmd (subA (some ⟨g,0,none⟩) k 2);have hsl:∀W,(Instr.sliceAt 52 (.slice (some ⟨g,0,none⟩) k k) (some (.int .i64 2)) none none).run Tryz.prog W = .ok (.slice sa (k-2) (k-2)) W:=λW=>by
  rw [<- al.out];exact run_subl Tryz.underlying52 infoU1 _ k k 2 rfl (by omega) W
 have ar:Hid (∀w',Rd w' (some ⟨g,0,none⟩) k k N->Rd w' sa (k-2) (k-2) N1):=λw' hr=>by
  have e:=hr.sub (lo:=2) (k:=k-2) (by omega);rw [al.out,ag.out,List.take_of_length_le (by rw [<- ag.out,List.length_drop,hlen];exact Nat.le_refl _)] at e;exact e
 have aD:(2:Int)<=(k:Int):=by omega
 have H:=hid hst;have HD:Hid (Tch w w.drew G):=Tch.of_below (Below.refl _ _).drew;obtain ⟨y0,y1,y2,y3,y4,y5,y6⟩:=aa.out w (Tch.refl _ _);obtain ⟨z0,z1,z2,z3,z4,z5,z6⟩:=aa.out w.drew HD.out;clear hst hB hR;go_enter Tryz.func58,Tryz.ntmps58;go_wp2;go_region_held3 (λw'=>w'.cell? ⟨gb,0,none⟩=some (.slice (some ⟨g,0,none⟩) k k)/\w'.cell? ⟨g,0,none⟩=some (.int .u64 x0)/\w'.cell? ⟨g,1,none⟩=some (.int .u64 x1)) (go_keep) (first | (go_at_call 59;refine (cMultiplyK b G s x0 x1 _ _ _ N1 _ (H.out.same ((Below.refl _ _).drew)) ⟨by omega,by omega⟩ ⟨by omega,by omega⟩ (ar.out _ z6) hlast).mono ?_;intro e w3 hK;obtain ⟨rfl,am,an⟩:=Kke.behind ((Below.refl _ _).drew) hK ak.out;obtain ⟨t0,t1,t2,t3,t4,t5,t6⟩:=aa.out w3 an) | (go_at_call 49;refine (dTellH _ _ _ ab.out.1 ab.out.2.1 ab.out.2.2.1 ab.out.2.2.2 t5).mono ?_;rintro e w4 ⟨rfl,ah⟩;have ai:=an.same (Tch.of_below ah);obtain ⟨o0,o1,o2,o3,o4,o5,o6⟩:=aa.out w4 ai))
 all_goals
  have au:Hid (Kst w4 b (Gnx G w w4) (kmul s x0 x1 N1).2.2):=Stx.mono (Stx.same am ah) (λi g=>g.elim .inl (λg=>.inr ⟨g.1,Nat.lt_of_lt_of_le g.2 ah.size⟩)) (Gnx.lt ak.out ai.size);clear am;go_wp2;go_ret;exact ⟨_,_,rfl,aq.out,au.out,ai⟩
theorem dKeyKey (w0:World) (w b) (gb g:Nat) (G s) (k:Nat) (N) (hst:Kst w b G s) (hc:w.cell? ⟨gb,0,none⟩=some (.slice (some ⟨g,0,none⟩) k k)) (hB:Blk w g N) (hlen:N.length=k) (hN:∀x ∈ N,0<=x/\x<=9999999999) (hk:k=1) (hk5:k<=100000) (hgbG:¬ G gb) (hgG:¬ G g) (hlow:∀i,G i->w0.heap.size<=i) (hbel:Below w0.heap.size w0 w) (hT:Tabs w0) (hlast:s.last<=1000000):
  Calls Tryz.prog 60 #[.pointer (some ⟨b,0,none⟩),.pointer (some ⟨gb,0,none⟩)] w (Kdl b G s vKey N w):=by
 have HN:=hid hN;have hR:Rd w (some ⟨g,0,none⟩) k k N:=hB.whole k hlen.symm (by unfold maxLen;omega) (λx hx=>by have:=hN x hx;omega);have aa:gb<w.heap.size:=World.block_lt_of_cell? w ⟨gb,0,none⟩ hc;have af:g<w.heap.size:=hB.lt;have ao:=hid hst.lt;clear hN;obtain ⟨x0,ab⟩:=nmd (N.getD 0 0);have ai:w.cell? ⟨g,0,none⟩=some (.int .u64 x0):=by rw [<- ab.out];exact hB.cell (by omega)
 have ap:0<=x0/\x0<=9999999999:=by
  rw [<- ab.out];exact HN.out _ (gmem (show 0<N.length by omega))
 have aq:IntKind.i64.wrap x0=x0:=by rw [IntKind.wrap_i64];omega
 have ar:(0:Int)<(k:Int):=by omega
 have an:0<k:=by omega
 have ag:Hid (∀w',Tch w w' G->w'.cell? ⟨gb,0,none⟩=some (.slice (some ⟨g,0,none⟩) k k)/\w'.cell? ⟨g,0,none⟩=some (.int .u64 x0)/\gb<w'.heap.size/\g<w'.heap.size/\Tabs w'/\Rd w' (some ⟨g,0,none⟩) k k N):=λw' ht=>by
  have hb:=ht.below hbel hlow hbel.size;have e1:∀o,w'.cell? ⟨gb,o,none⟩=w.cell? ⟨gb,o,none⟩:=λo=>cell_block (ht.block gb aa hgbG);have e2:∀o,w'.cell? ⟨g,o,none⟩=w.cell? ⟨g,o,none⟩:=λo=>cell_block (ht.block g af hgG);exact ⟨by rw [e1];exact hc,by rw [e2];exact ai,Nat.lt_of_lt_of_le aa ht.size,Nat.lt_of_lt_of_le af ht.size,hT.below hb,hR.tch0 ht (λx hx=>by obtain rfl:=Option.some.inj hx;exact hgG)⟩
 have H:=hid hst;have HD:Hid (Tch w w.drew G):=Tch.of_below (Below.refl _ _).drew;obtain ⟨y0,y1,y2,y3,y4,y5⟩:=ag.out w (Tch.refl _ _);clear hst hB hR;go_enter Tryz.func60,Tryz.ntmps60;go_wp2_with fail;refine (cOpenK b G s x0 _ (H.out.same (Below.refl _ _)) ⟨by omega,by omega⟩).mono ?_;rintro e w3 ⟨y,q,rfl,hO,ad⟩;have aj:Tch w w3 G:=Tch.of_below ad;obtain ⟨t0,t1,t2,t3,t4,t5⟩:=ag.out w3 aj;have au:=hO.val2;have ah:=hO.rb;have ak:Hid (Dky vKey N s (sad [y] q) s):=by unfold Hid Dky;(iterate 5 rewrite [if_neg (by decide)]);rw [if_pos rfl,ab.out];exact ⟨rfl,y,q,hO,rfl⟩
 clear hO;go_wp2_with fail;refine (dTellN _ _ _ (by omega) (by omega) ah.1 ah.2 t4).mono ?_;rintro e w4 ⟨rfl,al⟩;have ae:Below w.heap.size w w4:=btr ad al;have am:Hid (Kst w4 b (Gnx G w w4) s):=Stx.below H.out ae;go_wp2;go_ret;exact ⟨_,_,rfl,ak.out,am.out,Tch.of_below ae⟩
theorem dKeyDrop (w0:World) (w b) (gb g:Nat) (G s) (k:Nat) (N) (hst:Kst w b G s) (hc:w.cell? ⟨gb,0,none⟩=some (.slice (some ⟨g,0,none⟩) k k)) (hB:Blk w g N) (hlen:N.length=k) (hN:∀x ∈ N,0<=x/\x<=9999999999) (hk:k=1) (hk5:k<=100000) (hgbG:¬ G gb) (hgG:¬ G g) (hlow:∀i,G i->w0.heap.size<=i) (hbel:Below w0.heap.size w0 w) (hT:Tabs w0) (hlast:s.last<=1000000):
  Calls Tryz.prog 63 #[.pointer (some ⟨b,0,none⟩),.pointer (some ⟨gb,0,none⟩)] w (Kdl b G s vDrop N w):=by
 have HN:=hid hN;have hR:Rd w (some ⟨g,0,none⟩) k k N:=hB.whole k hlen.symm (by unfold maxLen;omega) (λx hx=>by have:=hN x hx;omega);have aa:gb<w.heap.size:=World.block_lt_of_cell? w ⟨gb,0,none⟩ hc;have ae:g<w.heap.size:=hB.lt;have af:=hid hst.lt;clear hN;obtain ⟨x0,ab⟩:=nmd (N.getD 0 0);have al:w.cell? ⟨g,0,none⟩=some (.int .u64 x0):=by rw [<- ab.out];exact hB.cell (by omega)
 have ap:0<=x0/\x0<=9999999999:=by
  rw [<- ab.out];exact HN.out _ (gmem (show 0<N.length by omega))
 have aq:IntKind.i64.wrap x0=x0:=by rw [IntKind.wrap_i64];omega
 have ar:(0:Int)<(k:Int):=by omega
 have ao:0<k:=by omega
 have ag:Hid (∀w',Tch w w' G->w'.cell? ⟨gb,0,none⟩=some (.slice (some ⟨g,0,none⟩) k k)/\w'.cell? ⟨g,0,none⟩=some (.int .u64 x0)/\gb<w'.heap.size/\g<w'.heap.size/\Tabs w'/\Rd w' (some ⟨g,0,none⟩) k k N):=λw' ht=>by
  have hb:=ht.below hbel hlow hbel.size;have e1:∀o,w'.cell? ⟨gb,o,none⟩=w.cell? ⟨gb,o,none⟩:=λo=>cell_block (ht.block gb aa hgbG);have e2:∀o,w'.cell? ⟨g,o,none⟩=w.cell? ⟨g,o,none⟩:=λo=>cell_block (ht.block g ae hgG);exact ⟨by rw [e1];exact hc,by rw [e2];exact al,Nat.lt_of_lt_of_le aa ht.size,Nat.lt_of_lt_of_le ae ht.size,hT.below hb,hR.tch0 ht (λx hx=>by obtain rfl:=Option.some.inj hx;exact hgG)⟩
 have am:Hid (Dky vDrop N s (fne (kdrp s x0).1) (kdrp s x0).2):=by unfold Hid Dky;(iterate 5 rewrite [if_neg (by decide)]);rw [if_neg (by decide)];unfold Dkt;rw [ab.out];exact ⟨rfl,rfl⟩
 have ah:Hid (-9223372036854775808<=(kdrp s x0).1/\(kdrp s x0).1<=9223372036854775807):=kdrp_rb _ _;have H:=hid hst;have HD:Hid (Tch w w.drew G):=Tch.of_below (Below.refl _ _).drew;obtain ⟨y0,y1,y2,y3,y4,y5⟩:=ag.out w (Tch.refl _ _);clear hst hB hR;go_enter Tryz.func63,Tryz.ntmps63;go_wp2_with fail;refine (cDropK b G s x0 _ (H.out.same (Below.refl _ _)) ⟨by omega,by omega⟩).mono ?_;intro e w3 hK;obtain ⟨rfl,ai,aj⟩:=Kkt.behind (Below.refl _ _) hK af.out;obtain ⟨t0,t1,t2,t3,t4,t5⟩:=ag.out w3 aj;go_wp2_with fail;refine (dDone _ _ ah.out.1 ah.out.2 t4).mono ?_;rintro e w4 ⟨rfl,ad⟩;have ak:=aj.same (Tch.of_below ad);have an:Hid (Kst w4 b (Gnx G w w4) (kdrp s x0).2):=Stx.mono (Stx.same ai ad) (λi g=>g.elim .inl (λg=>.inr ⟨g.1,Nat.lt_of_lt_of_le g.2 ad.size⟩)) (Gnx.lt af.out ak.size);clear ai;go_wp2;go_ret;exact ⟨_,_,rfl,am.out,an.out,ak⟩
theorem dLay (w0 w p G T S a n c l) (h:Dbc w0 w p G T S) (r:RdT w a n c l) (hn:n<=70000) (hTz:T.size<=2048) (hwz:∀i,i<n->(tx l i).size<=70000) (hT:Tabs w0):
  Calls Tryz.prog 20 #[.pointer (some ⟨p,0,none⟩),.slice a n c] w (Dle w0 p G T S vCirc l w):=by
 have an:=r.len;have aw:=r.cap;have ao:=r.max;unfold maxLen at ao;have H:=hid h;have HT:Hid (∀w',Below w.heap.size w w'->Tabs w'/\w'.cell? ⟨p,0,none⟩=some (.string T)/\w'.frozen? ⟨p,0,none⟩=false/\p<w'.heap.size):=λw' hb=>⟨hT.below (btr H.out.bel hb),(H.out.same hb).text.1,(H.out.same hb).text.2,(H.out.same hb).plt⟩;have hz:(jnw l n).size<=70001*n:=jnw_size hwz n (Nat.le_refl _);clear h hwz;by_cases hk0:n=0
 ·subst hk0;have ap:Hid (¬ Syn vCirc l):=λhs=>by unfold Syn at hs;rw [if_pos rfl] at hs;omega
  have HD:Hid (Dln T S vCirc l (erB 3) T S):=.inl ⟨ap.out,rfl,rfl,rfl⟩;obtain ⟨aq,_⟩:=HT.out _ (Below.refl _ _);clear hz r;go_enter Tryz.func20,Tryz.ntmps20;go_wp2_with fail;refine (dFail 3 _ (by omega) (by omega) aq).mono ?_;rintro e wz ⟨rfl,ab⟩;obtain ⟨X,HX⟩:=nmd (erB 3);rw [HX.out] at HD ⊢;go_wp2;go_ret;exact Dle.quiet H.out ab HD.out
 ·have ag:Hid (Syn vCirc l):=by unfold Hid Syn;rw [if_pos rfl];omega
  have ay:((n:Int)==0)=false:=by rw [beq_eq_false_iff_ne];omega
  have ah:Hid ((jnw l n).size<=100000000000):=by unfold Hid;omega
  obtain ⟨J,HJ⟩:=nmd (jnw l n);have ai:Hid (jnw l l.length=J):=by unfold Hid;rw [an];exact HJ.out
  rw [HJ.out] at hz;have a1:=add_big (P:=Tryz.prog) T J (by omega);obtain ⟨J1,ad⟩:=nmd (T++J);have aj:J1.size=T.size+J.size:=by rw [<- ad.out,ByteArray.size_append]
  rw [ad.out] at a1;have a2:=add_big (P:=Tryz.prog) J1 ⟨#[10]⟩ (by have:=nl_size;omega);obtain ⟨J2,ae⟩:=nmd (J1++⟨#[10]⟩);have ak:J2.size=T.size+J.size+1:=by rw [<- ae.out,ByteArray.size_append,aj];rfl
  have al:=hid ak;rw [ae.out] at a2;have ax:J2.size<=10000000000:=by omega
  have ar:Hid (T++(J++nlB)=J2):=by unfold Hid;rw [<- ae.out,<- ad.out,ByteArray.append_assoc];rfl
  obtain ⟨y0,y1,y2,y3⟩:=HT.out w (Below.refl _ _);obtain ⟨z0,z1,z2,z3⟩:=HT.out w.drew (Below.refl _ _).drew;have am:=r.below (Below.refl w.heap.size w).drew;clear hk0 aj ak;by_cases hbig:2048<J2.size
  ·have au:(2048:Int)<(J2.size:Int):=by omega
   have HD:Hid (Dln T S vCirc l (erB 2) T S):=.inr ⟨ag.out,by unfold Dac;rw [if_pos rfl,ai.out];exact ⟨rfl,.inl ⟨by rw [<- al.out];exact hbig,rfl,rfl⟩⟩⟩;clear hbig;go_enter Tryz.func20,Tryz.ntmps20;go_wp2;go_region_held3 (λw'=>w'.cell? ⟨p,0,none⟩=some (.string T)) (go_keep) (first | (go_at_call 42;refine (sJoin _ _ _ l _ am (by omega) ah.out).mono ?_;rintro e w2 ⟨rfl,af⟩;rw [HJ.out];have aa:Below w.heap.size w w2:=((Below.refl _ _).drew).trans (af.mono (Nat.le_refl _));obtain ⟨t0,t1,t2,t3⟩:=HT.out w2 aa))
   all_goals
    go_wp2_with fail;refine (dFail 2 _ (by omega) (by omega) t0).mono ?_;rintro e wz ⟨rfl,ab⟩;have av:=btr aa ab;obtain ⟨X,HX⟩:=nmd (erB 2);rw [HX.out] at HD ⊢;clear ab;go_wp2;go_ret;exact Dle.quiet H.out av HD.out
  ·have au:¬ ((2048:Int)<(J2.size:Int)):=by omega
   have HD:Hid (Dln T S vCirc l okB J2 S):=.inr ⟨ag.out,by unfold Dac;rw [if_pos rfl,ai.out];exact ⟨rfl,.inr ⟨by rw [<- al.out];omega,rfl,ar.out.symm⟩⟩⟩;clear hbig;go_enter Tryz.func20,Tryz.ntmps20;go_wp2;go_region_held3 (λw'=>w'.cell? ⟨p,0,none⟩=some (.string T)) (go_keep) (first | (go_at_call 42;refine (sJoin _ _ _ l _ am (by omega) ah.out).mono ?_;rintro e w2 ⟨rfl,af⟩;rw [HJ.out];have aa:Below w.heap.size w w2:=((Below.refl _ _).drew).trans (af.mono (Nat.le_refl _));obtain ⟨t0,t1,t2,t3⟩:=HT.out w2 aa))
   all_goals
    have HL:Hid (Dle w0 p G T S vCirc l w (.returned (.string okB)) (w2.setCell ⟨p,0,none⟩ (.string J2))):=Dle.text H.out aa HD.out;go_wp2;go_ret;exact HL.out
theorem dAnsCirc (w0 w p G T S a n c l) (h:Dbc w0 w p G T S) (r:RdT w a n c l) (hn:n<=70000) (hTz:T.size<=2048) (hwz:∀i,i<n->(tx l i).size<=70000) (hT:Tabs w0):
  Calls Tryz.prog 10 #[.pointer (some ⟨p,0,none⟩),.string vCirc,.slice a n c] w (Dle w0 p G T S vCirc l w):=by
 have hL:=dLay w0 w p G T S a n c l h r hn hTz hwz hT;obtain ⟨v,HV⟩:=nmd vCirc;have q0:(v.toList == [99,105,114,99,117,105,116])=true:=by rw [<- HV.out];decide +kernel
 rw [HV.out] at hL ⊢;clear h r hwz;go_enter Tryz.func10,Tryz.ntmps10;go_wp2_with fail;refine hL.mono ?_;intro e w1 hD;have HD:=hid hD;obtain ⟨out,T',S',rfl,_⟩:=hD;clear hL;go_wp2;go_ret;exact HD.out
end
end Go.Proofs.YtljlioglpaogdacGreatDoor

/- DspL -/
import Derived.Test.YtljlioglpaogdacGreatDoorToTexM
import Derived.Test.YtljlioglpaogdacGreatDoorRows
import Derived.ProofKit
import Derived.LaidMore
import Derived.OpenShut
import Derived.Stop.LaidErr
namespace Go.Proofs.YtljlioglpaogdacGreatDoor
set_option linter.unusedVariables false
set_option maxRecDepth 100000
set_option maxHeartbeats 8000000
section
open Crm Go.ChangeAt Go.ChangeShapes Go.RowKit Go.WideShapes
theorem gDsp:Tryz.prog.globalNamed "sharecroft/desk.shapes" = some 0:=by kernel_rfl
theorem tDsp:(Tryz.prog.globals[0]?).map (·.type)=some 94:=by kernel_rfl
theorem cellsDsp:Tryz.prog.cellsOf 55=3:=by kernel_rfl
theorem cellsDst:Tryz.prog.cellsOf 94=39:=by kernel_rfl
theorem cellsDss:Tryz.prog.cellsOf 9=1:=by kernel_rfl
theorem cellsDsb:Tryz.prog.cellsOf 4=1:=by kernel_rfl
theorem cellsDsi:Tryz.prog.cellsOf 3=1:=by kernel_rfl
def dsD {H:Type} (i:Nat):DataW H:=.agg [.lit (.string (dsw i).data.toList),.lit (.int .i64 (dsl i:Int)),.lit (.bool (dsm i))]
theorem dsD_all {H:Type}:(Rows.laid_sharecroft_desk_shapes:DataW H) = .agg ((List.range 13).map dsD):=rfl
theorem cells_of_dshape {H:Type} {enc:TypeId×Value->H} {w:World} {base:Nat} {sp:Nat->Bool} {held:Bool} {fuel:Nat} {cs:List Value} {p:List MemPlace} {i:Nat} (h:DataW.trod enc Tryz.prog w base sp held fuel 55 cs=some (dsD i,p)):cs = [.string (dsw i),.int .i64 (dsl i:Int),.bool (dsm i)]:=by
 obtain ⟨xs,k,_,hx,hl,ab,hf⟩:=DataW.trod_struct Tryz.underlying55 h;rw [cellsDsp] at hl;match xs,ab,cs,hl with
 | [y0,y1,y2],_,[v0,v1,v2],_=>
  have g0:DataW.trod enc Tryz.prog w base sp held k 9 [v0]=some y0:=by simpa [cellsDss] using hf 0 _ rfl
  have g1:DataW.trod enc Tryz.prog w base sp held k 3 [v1]=some y1:=by simpa [cellsDsi] using hf 1 _ rfl
  have g2:DataW.trod enc Tryz.prog w base sp held k 4 [v2]=some y2:=by simpa [cellsDsb] using hf 2 _ rfl
  obtain ⟨s,e0,f0,_⟩:=DataW.trod_string Tryz.underlying9 g0;obtain ⟨b1,e1,f1,_⟩:=DataW.trod_int Tryz.underlying3 g1;obtain ⟨b2,e2,f2⟩:=DataW.trod_bool Tryz.underlying4 g2;subst f0 f1 f2;have aa:=congrArg Prod.fst hx;simp only [dsD,List.map_cons,List.map_nil,DataW.agg.injEq,List.cons.injEq,DataW.lit.injEq,Lit.string.injEq,Lit.int.injEq,Lit.bool.injEq,and_true,true_and] at aa;obtain ⟨q0,q1,q2⟩:=aa;have hs:dsw i=s:=by
   apply ByteArray.ext;exact Array.ext' q0
  simp only [List.cons.injEq,and_true] at e0 e1 e2;rw [e0,e1,e2,hs,q1,q2]
theorem dsp_of_head {rest:List (String×DataW Unit)} {W:World} (h:laidMet Tryz.prog (("sharecroft/desk.shapes",Rows.laid_sharecroft_desk_shapes) :: rest) W):Dsp W:=by
 obtain ⟨ps,⟨g0,t0,ab,f0,p0,q0,af,ag,aa,ah,_,_⟩,_,_⟩:=h;obtain rfl:=Option.some.inj (gDsp.symm.trans af);obtain rfl:=Option.some.inj (tDsp.symm.trans ag);obtain ⟨xs,m,_,hx,hl,am,ai⟩:=DataW.trod_array Tryz.underlying94 ah;have ad:=congrArg Prod.fst hx;rw [dsD_all] at ad;simp only [DataW.agg.injEq] at ad;rw [cellsDst] at hl;have aj:∀i,i<13->(ab.toList.drop (i*3)).take 3 = [.string (dsw i),.int .i64 (dsl i:Int),.bool (dsm i)]:=λi hi=>by
  have h1:=ai i hi;have ak:xs[i]? = some (dsD i,(xs[i]'(by omega)).2):=by
   rw [List.getElem?_eq_getElem (show i<xs.length by omega)];have h2:=congrArg (·[i]?) ad
   simp only [List.getElem?_map] at h2;rw [List.getElem?_eq_getElem (show i<xs.length by omega),List.getElem?_range hi] at h2;simp only [Option.map_some,Option.some.injEq] at h2;rw [h2]
  rw [ak,cellsDsp] at h1;exact cells_of_dshape h1
 have al:ab.toList=dsc:=by
  apply List.ext_getElem?;intro k;by_cases hk:k<39
  ·have hi:k/3<13:=by omega
   have hj:k%3<3:=Nat.mod_lt _ (by omega);have ae:k=k/3*3+k%3:=by omega
   have h1:=aj (k/3) hi;obtain ⟨d0,d1,d2⟩:=dsc_at hi;have h2:((ab.toList.drop (k/3*3)).take 3)[k%3]? = ab.toList[k]?:=by
    rw [List.getElem?_take_of_lt hj,List.getElem?_drop,<- ae]
   rw [<- h2,h1];have hd:dsc[k]? = dsc[k/3*3+k%3]?:=by rw [<- ae]
   rw [hd];have hc:k%3=0\/k%3=1\/k%3=2:=by omega
   rcases hc with e | e | e
   ·rw [e,Nat.add_zero];exact d0.symm
   ·rw [e];exact d1.symm
   ·rw [e];exact d2.symm
  ·rw [List.getElem?_eq_none (by omega),List.getElem?_eq_none (by rw [dsc_len];omega)]
 unfold World.var? at aa;rw [gDsp,Option.bind_some] at aa;unfold Dsp;split at aa
 ·next cs t fr e=>
  obtain rfl:=Option.some.inj aa;refine ⟨t,fr,?_⟩
  rw [e];congr;rw [<- al]
 ·cases aa
end
end Go.Proofs.YtljlioglpaogdacGreatDoor

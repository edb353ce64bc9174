/- LaidM -/
import Derived.Test.YtljlioglpaogdacGreatDoorToParN
import Derived.Test.YtljlioglpaogdacGreatDoorLaidD
namespace Go.Proofs.YtljlioglpaogdacGreatDoor
set_option linter.unusedVariables false
set_option maxRecDepth 100000
set_option maxHeartbeats 8000000
section
open Crm Go.ChangeAt Go.ChangeShapes Go.RowKit Go.WideShapes
theorem cells_of_strs {H:Type} {enc:TypeId×Value->H} {P:Program} {w:World} {base:Nat} {sp:Nat->Bool} {held:Bool} {fuel:Nat} {t e:TypeId} {n:Nat} {cs:List Value} {L:List ByteArray} {p:List MemPlace} (ht:P.underlying t=some (.array n e)) (he:P.underlying e=some .string) (hce:P.cellsOf e=1) (hn:L.length=n) (h:DataW.trod enc P w base sp held fuel t cs=some (.agg (L.map λs=>.lit (.string s.data.toList)),p)):∀i,i<n->cs[i]? = some (.string (L.getD i mt)):=by
 obtain ⟨xs,m,_,hx,_,hl,aa⟩:=DataW.trod_array ht h;have ab:L.map (λs=>(DataW.lit (.string s.data.toList):DataW H))=xs.map (·.1):=by
  have:=congrArg Prod.fst hx;simpa using this
 intro i hi;have h1:=aa i hi;rw [hce,Nat.mul_one,List.getElem?_eq_getElem (show i<xs.length by omega)] at h1;obtain ⟨s,e1,e2,_⟩:=DataW.trod_string he h1;have h2:=congrArg (·[i]?) ab
 simp only [List.getElem?_map] at h2;rw [List.getElem?_eq_getElem (show i<L.length by omega),List.getElem?_eq_getElem (show i<xs.length by omega),e2] at h2;simp only [Option.map_some,Option.some.injEq,DataW.lit.injEq,Lit.string.injEq] at h2;have hs:L[i]'(by omega)=s:=by
  apply ByteArray.ext;exact Array.ext' h2
 have e3:=congrArg (·[0]?) e1
 simp only [List.getElem?_cons_zero] at e3;rw [List.getD_eq_getElem?_getD,List.getElem?_eq_getElem (show i<L.length by omega),Option.getD_some,hs,<- e3];simp [List.getElem?_drop]
theorem gVerbs:Tryz.prog.globalNamed "sharecroft/croftref.verbs" = some 1:=by kernel_rfl
theorem tVerbs:(Tryz.prog.globals[1]?).map (·.type)=some 160:=by kernel_rfl
theorem cellsStr:Tryz.prog.cellsOf 9=1:=by kernel_rfl
theorem vb_of_head {rest:List (String×DataW Unit)} {W:World} (h:laidMet Tryz.prog (("sharecroft/croftref.verbs",Rows.laid_sharecroft_croftref_verbs) :: rest) W):Vb W:=by
 obtain ⟨ps,⟨g0,t0,ag,f0,p0,q0,aa,ab,ad,ae,_,_⟩,_,_⟩:=h;obtain rfl:=Option.some.inj (gVerbs.symm.trans aa);obtain rfl:=Option.some.inj (tVerbs.symm.trans ab);have af:=cells_of_strs (L:=vbs) Tryz.underlying160 Tryz.underlying9 cellsStr rfl ae;intro i hi;have:=World.var?_cell aa ad i;rw [this,<- Array.getElem?_toList,af i hi];rfl
theorem gPow:Tryz.prog.globalNamed "internal/strconv.uint64pow10" = some 3:=by kernel_rfl
theorem tPow:(Tryz.prog.globals[3]?).map (·.type)=some 199:=by kernel_rfl
theorem cellsPow:Tryz.prog.cellsOf 199=20:=by kernel_rfl
theorem cellsPowU:Tryz.prog.cellsOf 70=1:=by kernel_rfl
theorem pow_of_head {rest:List (String×DataW Unit)} {W:World} (h:laidMet Tryz.prog (("internal/strconv.uint64pow10",Rows.laid_internal_strconv_uint64pow10) :: rest) W):Tabs W:=
 Lib.tabIs_of_head (zs:=Lib.pow10Tab) (k:=.u64) gPow tPow Tryz.underlying199 Tryz.underlying70 cellsPowU cellsPow h
end
end Go.Proofs.YtljlioglpaogdacGreatDoor

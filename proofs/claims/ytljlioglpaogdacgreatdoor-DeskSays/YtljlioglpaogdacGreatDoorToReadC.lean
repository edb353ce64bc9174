/- SwC SwO SwB SwG1 SwG2 SwG6 SwG3 SwA ReadC -/
import Derived.Test.YtljlioglpaogdacGreatDoorToParN
import Derived.Deep.CutBlock
namespace Go.Proofs.YtljlioglpaogdacGreatDoor
set_option linter.unusedVariables false
set_option maxRecDepth 100000
set_option maxHeartbeats 8000000
section
open Crm Go.RowKit
theorem infoS1t:(Tryz.prog.info? 9).map (·.size)=some 1:=by kernel_rfl
theorem emp_yes {y:ByteArray} (h:y=mt):y.toList.isEmpty=true:=by subst h;rw [ByteArray.toList_eq];rfl
theorem emp_no {y:ByteArray} (h:y≠mt):y.toList.isEmpty=false:=by
 rw [ByteArray.toList_eq];cases e:y.data.toList with
 | nil=>exact absurd (ByteArray.ext (Array.ext' e)) h
 | cons a l=>rfl
theorem outB_list:outB.toList = [111,117,116]:=by rw [ByteArray.toList_eq];rfl
def tbl7:List Value:=[.int .i64 0,.int .i64 1,.int .i64 1,.int .i64 2,.int .i64 2,.int .i64 2,.int .i64 2]
theorem tbl7_at:∀k,k<7->tbl7[k]? = some (.int .i64 (arn k:Int))
 | 0,_=>rfl
 | 1,_=>rfl
 | 2,_=>rfl
 | 3,_=>rfl
 | 4,_=>rfl
 | 5,_=>rfl
 | 6,_=>rfl
 | k+7,h=>by omega
theorem tbl7_cell (w:World) {k:Nat} (hk:k<7):(w.alloc (.cells #[.int .i64 0,.int .i64 1,.int .i64 1,.int .i64 2,.int .i64 2,.int .i64 2,.int .i64 2] 3)).cell? ⟨w.heap.size,k,none⟩=some (.int .i64 (arn k:Int)):=by
 rw [cell_of_row _ _ _ _ 3 (0,0) (heap_alloc_new w _)];have:=tbl7_at k hk;unfold tbl7 at this;simpa using this
theorem Crd.start (w:World) (B:Nat):Crd (w.alloc (.cells #[.slice none 0 0,.slice none 0 0] 89)) B w.heap.size none 0 0 none 0 0 [] []:=
 ⟨CBox.new w none 0 0 none 0 0,rfl,rfl,World.ownsRow_nil _ _ _ _,World.ownsRow_nil _ _ _ _⟩
theorem CBox.other {w g} {g' i:Nat} {u:Value} {ag n cg ao m co} (h:CBox w g ag n cg ao m co) (hg:g'≠g):CBox (w.setCell ⟨g',i,none⟩ u) g ag n cg ao m co:=
 h.grown (grown_set _ _ _ _) (by simpa using λe=>hg e.symm)
def Swt (s:ByteArray) (w:World) (gc gl N cl i:Nat) (b:Bool) (wx:World):Prop:=
 (b=false/\Par s [] [] (i+1) 3/\CBox wx w.heap.size none 0 0 none 0 0/\Below w.heap.size w wx)\/
 (b=true/\i+1<=N/\∃(n cg m co:Nat) (ag ao:Option Addr) (G:List Gt) (O:List Int),Rds (lns s) (i+1) G O/\Crd wx w.heap.size gc ag n cg ao m co G O/\wx.ownsRow w.heap.size 9 1 (.slice (some ⟨gl,0,none⟩) (N+1) cl) (N+1) (strs (lns s))/\CBox wx w.heap.size none 0 0 none 0 0/\n<=i+1/\m<=i+1/\Below w.heap.size w wx)
def pick2:Code->Option Code
 | .block n c=>if n=2 then some (.block n c) else pick2 c
 | .loop c=>pick2 c
 | .scope c=>pick2 c
 | .seq a b=>match pick2 a with
  | some c=>some c
  | none=>pick2 b
 | .cond _ a b=>match pick2 a with
  | some c=>some c
  | none=>pick2 b
 | _=>none
def SwG (C:ByteArray->Int->Nat->Nat->Nat->Prop):Prop:=∀{s:ByteArray} {w wc:World} {gc gl N cl i n cg m co:Nat} {ag ao:Option Addr} {G:List Gt} {O:List Int} {t hd:ByteArray} {k gw cw kn cn B2:Nat} {an:Option Addr} {r:Int} {okk okb:Bool}
  (HR:Hid (Rds (lns s) i G O)) (HT:Hid (tx (lns s) i=t)) (HAL:Hid ((ags t).length=k)) (HHd:Hid (tx (wds t) 0=hd)) (HIx:Hid (Ixt vbs 7 hd r)) (hrb : -1<=r/\r<((7:Nat):Int))
  (hC4:Crd wc w.heap.size gc ag n cg ao m co G O) (hL4:wc.ownsRow w.heap.size 9 1 (.slice (some ⟨gl,0,none⟩) (N+1) cl) (N+1) (strs (lns s))) (hZ4:CBox wc w.heap.size none 0 0 none 0 0) (hbel4:Below w.heap.size w wc) (hsz4:w.heap.size<=wc.heap.size)
  (hci:wc.cell? ⟨gw,0,none⟩=some (.string hd)) (hgwl:gw<wc.heap.size) (HN4:Hid (okb=true->okn (ags t) k/\kn=k/\wc.ownsRow B2 3 1 (.slice an kn cn) kn (zns (nbl (ags t) k)))) (HKN0:Hid (okb=false->kn=0))
  (HPN:Hid (okk=false\/Nok t O->Par s [] [] (i+1) 3)) (HiN:Hid (okk=true->i+1<=N)) (HOb:Hid (okk=true->okb=true)) (d0:wc.cell? ⟨gc,0,none⟩=some (.slice ag n cg)) (d1:wc.cell? ⟨gc,1,none⟩=some (.slice ao m co)) (hgcl:gc<wc.heap.size) (fb1:wc.frozen? ⟨gc,1,none⟩=false)
  (hni:n<=i) (hmi:m<=i) (hN:N<=2048) (hiN:i<=N) (hkn48:kn<=2048) (hgc:w.heap.size<gc) (hcw:k+1<=cw)
  (kk:Nat) (hC:C hd r m kn kk) {K' K1 K2 K3:Act->World->Prop} {u0 u1 u2 u3 u4 u5 u6 u8 u13 u14 u15 u16 u17 u18 u19 u20 u21 u22 u23 u24 u25 u26 u27 u28 u29 u30 u31 u32 u33 u34 u35 u36 u37 u38 u39 u40 u41 u42 u43 u44 u45 u46 u47 u48 u49 u50 u51 u52 u53 u54 u55 u56 u57 u58 u59 u60 u61 u62 u63 u64 u65 u66 u67 u68 u69 u70 u71 u72 u73 u74 u75 u76 u77 u78 u79 u80 u81 u82 u83 u84 u85 u86 u87 u88 u89 u90 u91 u92 u93 u94 u95 u96 u97 u98 u99 u100 u101 u102 u103 u104 u105 u106 u107 u108 u109 u110 u111 u112 u113 u114 u115 u116 u117 u118 u119 u120 u121 u122 u123 u124 u125 u126 u127 u128 u129 u130 u131 u132 u133 u134 u135 u136 u137 u138 u139 u140 u141 u142 u143 u144 u145 u146 u147 u148 u149 u150 u151 u152 u153 u154 u155 u156 u157 u158 u159 u160 u161 u162 u163 u164 u165 u166 u167 u168 u169 u170 u171 u172:Value}
  (hK:Hid (∀(b:Bool) {v66 v67 v68 v69 v70 v71 v72 v73 v74 v75 v76 v77 v78 v79 v80 v81 v82 v83 v84 v85 v86 v87 v88 v89 v90 v91 v92 v93 v94 v95 v96 v97 v98 v99 v100 v101 v102 v103 v104 v105 v106 v107 v108 v109 v110 v111 v112 v113 v114 v115 v116 v117 v118 v119 v120 v121 v122 v123 v124 v125 v126 v127 v128 v129 v130 v131 v132 v133 v134 v135 v136 v137 v138 v139 v140 v141 v142 v143 v144 v145 v146 v147 v148 v149 v150 v151 v152 v153 v154 v155 v156 v157 v158 v159 v160:Value} (w':World),Swt s w gc gl N cl i b w'->K' ⟨#[u0,u1,u2,u3,u4,u5,u6,.pointer (some ⟨gc,0,none⟩),u8,.slice (some ⟨gw,0,none⟩) (k+1) cw,.slice an kn cn,.bool b,.int .i64 r,u13,u14,u15,u16,u17,u18,u19,u20,u21,u22,u23,u24,u25,u26,u27,u28,u29,u30,u31,u32,u33,u34,u35,u36,u37,u38,u39,u40,u41,u42,u43,u44,u45,u46,u47,u48,u49,u50,u51,u52,u53,u54,u55,u56,u57,u58,u59,u60,u61,u62,u63,u64,u65,v66,v67,v68,v69,v70,v71,v72,v73,v74,v75,v76,v77,v78,v79,v80,v81,v82,v83,v84,v85,v86,v87,v88,v89,v90,v91,v92,v93,v94,v95,v96,v97,v98,v99,v100,v101,v102,v103,v104,v105,v106,v107,v108,v109,v110,v111,v112,v113,v114,v115,v116,v117,v118,v119,v120,v121,v122,v123,v124,v125,v126,v127,v128,v129,v130,v131,v132,v133,v134,v135,v136,v137,v138,v139,v140,v141,v142,v143,v144,v145,v146,v147,v148,v149,v150,v151,v152,v153,v154,v155,v156,v157,v158,v159,v160,u161,u162,u163,u164,u165,u166,u167,u168,u169,u170,u171,u172],[]⟩ w')),
  Code.wp Tryz.prog ((Tryz.f77.body.bind pick2).getD .skip) (Exit.then K' (Exit.inBlock 1 (Exit.then K1 (Exit.then K2 (Exit.inBlock 0 (Exit.then K3 (bodyPost Tryz.prog Tryz.f77 λe w'=>Prd s w e w'))))))) ⟨#[u0,u1,u2,u3,u4,u5,u6,.pointer (some ⟨gc,0,none⟩),u8,.slice (some ⟨gw,0,none⟩) (k+1) cw,.slice an kn cn,.bool okk,.int .i64 r,u13,u14,u15,u16,u17,u18,u19,u20,u21,u22,u23,u24,u25,u26,u27,u28,u29,u30,u31,u32,u33,u34,u35,u36,u37,u38,u39,u40,u41,u42,u43,u44,u45,u46,u47,u48,u49,u50,u51,u52,u53,u54,u55,u56,u57,u58,u59,u60,u61,u62,u63,u64,u65,u66,u67,u68,u69,u70,u71,u72,u73,u74,u75,u76,u77,u78,u79,u80,u81,u82,u83,u84,u85,u86,u87,u88,u89,u90,u91,u92,u93,u94,u95,u96,u97,u98,u99,u100,u101,u102,u103,u104,u105,u106,u107,u108,u109,u110,u111,u112,u113,u114,u115,u116,u117,u118,u119,u120,u121,u122,u123,u124,u125,u126,u127,u128,u129,u130,u131,u132,u133,u134,u135,u136,u137,u138,u139,u140,u141,u142,u143,u144,u145,u146,u147,u148,u149,u150,u151,u152,u153,u154,u155,u156,u157,u158,u159,u160,u161,u162,u163,u164,u165,u166,u167,u168,u169,u170,u171,u172],[]⟩ wc
theorem swOut:SwG λhd r m kn kk=>hd=outB:=by
 rintro s w wc gc gl N cl i n cg m co ag ao G O t hd k gw cw kn cn B2 an r okk aQ HR HT aq az aR aS ab ar af aa ay aA aL aB aM ai aC aD d0 d1 aN aT aU aV hN aW aK aX aY kk ad K' K1 K2 K3;intros;rename_i hK;replace ad:hd=outB:=ad;conv=>arg 2;whnf
 have he:(hd.toList == [111,117,116])=true:=by rw [<- outB_list];exact tl_yes ad
 have au:Hid (tx (wds t) 0=outB):=by unfold Hid;rw [az.out];exact ad
 clear ad;go_upto_region 17 with fail;clear he aA;cases okk with
 | false=>
  have aj:Hid (Swt s w gc gl N cl i false _):=.inl ⟨rfl,ai.out (.inl rfl),af,aa⟩;go_wp2
  all_goals
   exact hK.out false _ (aj.out)
 | true=>
  obtain ⟨aE,rfl,ak⟩:=aB.out (aD.out rfl);by_cases hk1:kn=1
  ·subst hk1;obtain ⟨gn,u0,rfl,_,aO,aF,aP⟩:=own_at ak (k:=0) (by omega);obtain ⟨x0,av⟩:=nmd (agn t 0);obtain rfl:u0 = .int .i64 x0:=by
    rw [<- av.out];simpa [zns,nbl,agn,List.range_succ] using aF.symm
   have aG:Hid (Rds (lns s) (i+1) G (O ++ [x0])):=⟨G,O,HR.out,.inr ⟨x0,by rw [HT.out];exact ⟨au.out,aq.out,aE,av.out.symm⟩,rfl,rfl⟩⟩;have aH:i+1<=N:=aC.out rfl;have ah:wc.drew.ownsRow w.heap.size 3 1 (.slice ao m co) m (zns O):=ab.ins;have aI:Hid (zns O ++ [.int .i64 x0]=zns (O ++ [x0])):=zns_snoc O x0;have aw:Hid (∀g7 c7 w7,w7.ownsRow w.heap.size 3 1 (.slice (some ⟨g7,0,none⟩) (m+1) c7) (m+1) (zns (O ++ [x0]))->wc.drew.grownBy w7 (Value.slice ao m co).ownBlock->
     ((∃x,w7.cell? ⟨gc,1,none⟩=some x)/\w7.frozen? ⟨gc,1,none⟩=false)/\Crd (w7.setCell ⟨gc,1,none⟩ (.slice (some ⟨g7,0,none⟩) (m+1) c7)) w.heap.size gc ag n cg (some ⟨g7,0,none⟩) (m+1) c7 G (O ++ [x0])/\
     (w7.setCell ⟨gc,1,none⟩ (.slice (some ⟨g7,0,none⟩) (m+1) c7)).ownsRow w.heap.size 9 1 (.slice (some ⟨gl,0,none⟩) (N+1) cl) (N+1) (strs (lns s))/\CBox (w7.setCell ⟨gc,1,none⟩ (.slice (some ⟨g7,0,none⟩) (m+1) c7)) w.heap.size none 0 0 none 0 0/\Below w.heap.size w (w7.setCell ⟨gc,1,none⟩ (.slice (some ⟨g7,0,none⟩) (m+1) c7))):=λg7 c7 w7 ho hg=>by
    have ae:Crd wc.drew w.heap.size gc ag n cg ao m co G O:=⟨ab.box,ab.ln,ab.lo,ab.own,ab.ins⟩;have al:=ae.box.grown hg (box_apart ae.box ae.ins eIC);have ax:CBox wc.drew w.heap.size none 0 0 none 0 0:=af;refine ⟨⟨⟨_,al.cells.2⟩,al.frozen 1⟩,ae.out ho hg,own_beside (show wc.drew.ownsRow _ _ _ _ _ _ from ar) ae.ins (λe=>eSI e.symm) eSC hg al,(ax.grown hg (box_apart ax ae.ins eIC)).other (by omega),((aa.drew).grown hg (by exact aa.size) (λq hq=>(ae.ins.lt q hq).1)).setCell (p:=⟨gc,1,none⟩) (show w.heap.size<=gc by omega) _⟩
   clear ab ar af aa ak ai;go_wp2;go_region_law (refine step_appZ Tryz.underlying63 infoIt rfl (by decide) (by decide) wc.drew rfl _ _ rfl w.heap.size _ _ _ rfl ah [.int .i64 x0] rfl (by intro u hu;simp at hu;subst hu;rfl) rfl rfl (by omega) (by exact ay) ?_;intro g7 c7 w7 am ap _;rw [aI.out] at am;obtain ⟨⟨⟨xx,dd⟩,ff⟩,hE⟩:=aw.out g7 c7 w7 am ap;have aZ:=World.block_lt_of_cell? w7 _ dd;have HE:Hid (_/\_):=hE;clear am ap hE)
   all_goals
    clear aw ah;go_wp2;exact hK.out true _ (.inr ⟨rfl,aH,n,cg,m+1,c7,ag,_,G,_,aG.out,HE.out.1,HE.out.2.1,HE.out.2.2.1,by omega,by omega,HE.out.2.2.2⟩)
  ·have a0:((kn:Int)==1)=false:=by rw [beq_eq_false_iff_ne];omega
   have aJ:Hid (Nok t O):=nok_out au.out (by rw [aq.out];exact hk1);clear hk1 ak;have aj:Hid (Swt s w gc gl N cl i false _):=.inl ⟨rfl,ai.out (.inr aJ.out),af,aa⟩;go_wp2
   all_goals
    exact hK.out false _ (aj.out)
theorem swBad1:SwG λhd r m kn kk=>hd≠outB/\r<1:=by
 rintro s w wc gc gl N cl i n cg m co ag ao G O t hd k gw cw kn cn B2 an r okk av HR HT aw ad ae ax ay az af ab ap aA aq aB ar ah aC aD d0 d1 au aE aF aG hN aH am aI aJ kk ⟨aa,ai⟩ K' K1 K2 K3;intros;rename_i hK;conv=>arg 2;whnf
 have he:(hd.toList == [111,117,116])=false:=by rw [<- outB_list];exact tl_no aa
 have aj:Hid (tx (wds t) 0≠outB):=by unfold Hid;rw [ad.out];exact aa
 clear aa;go_upto_region 20 with fail;clear he;have ak:Hid (Nok t O):=nok_kind aj.out (by rw [ad.out];exact ae.out) ai;have al:Hid (Swt s w gc gl N cl i false wc):=.inl ⟨rfl,ah.out (.inr ak.out),af,ab⟩;go_wp2
 all_goals
  exact hK.out false _ al.out
theorem swBad2:SwG λhd r m kn kk=>hd≠outB/\r=(kk:Int)/\vb kk=hd/\1<=kk/\kk<7/\0<m:=by
 rintro s w wc gc gl N cl i n cg m co ag ao G O t hd k gw cw kn cn B2 an r okk az HR HT aA ad aB af ah aC ai ab ar aD au aE av aj aF aG d0 d1 aw aH aI aJ hN aK aq aL aM kk ⟨aa,ak,ae,ax,ay,aN⟩ K' K1 K2 K3;intros;rename_i hK;conv=>arg 2;whnf
 have he:(hd.toList == [111,117,116])=false:=by rw [<- outB_list];exact tl_no aa
 have al:Hid (tx (wds t) 0≠outB):=by unfold Hid;rw [ad.out];exact aa
 clear aa;go_upto_region 20 with fail;clear he;have aO:Hid (tx (wds t) 0=vb kk):=by unfold Hid;rw [ad.out,ae]
 subst ak;clear ae af;have am:Hid (Nok t O):=nok_outs al.out (by intro e;have:=ah.lo;rw [e] at this;simp at this;omega);have ap:Hid (Swt s w gc gl N cl i false wc):=.inl ⟨rfl,aj.out (.inr am.out),ai,ab⟩;go_wp2
 all_goals
  exact hK.out false _ ap.out
theorem swBad3:SwG λhd r m kn kk=>hd≠outB/\r=(kk:Int)/\vb kk=hd/\1<=kk/\kk<7/\¬ 0<m/\kn≠arn kk:=by
 rintro s w wc gc gl N cl i n cg m co ag ao G O t hd k gw cw kn cn B2 an r okk ar HR HT au aj aP av ae ak af ab aL aw ap ax aM ay aQ az d0 d1 aN aA aR aS hN aT aK aU aV kk ⟨ad,aB,al,aO,ah,aW,am⟩ K' K1 K2 K3;intros;rename_i hK;conv=>arg 2;whnf
 have he:(hd.toList == [111,117,116])=false:=by rw [<- outB_list];exact tl_no ad
 have aC:Hid (tx (wds t) 0≠outB):=by unfold Hid;rw [aj.out];exact ad
 clear ad;go_upto_region 20 with fail;clear he;have aD:Hid (tx (wds t) 0=vb kk):=by unfold Hid;rw [aj.out,al]
 subst aB;clear al av;obtain rfl:m=0:=by omega
 have aX:Hid (O = []):=by have:=ae.lo;exact List.eq_nil_of_length_eq_zero this
 have aE:=tbl7_cell wc ah;have aa:Below wc.heap.size wc (wc.alloc (.cells #[.int .i64 0,.int .i64 1,.int .i64 1,.int .i64 2,.int .i64 2,.int .i64 2,.int .i64 2] 3)):=bal _ _;have aF:=ae.below aa;have aG:=own_below ak aa;have aH:=af.below aa af.lt;have ai:=btr ab aa;have aq:(wc.alloc (.cells #[.int .i64 0,.int .i64 1,.int .i64 1,.int .i64 2,.int .i64 2,.int .i64 2,.int .i64 2] 3)).cell? ⟨gw,0,none⟩=some (.string hd):=by rw [aa.cell (p:=⟨gw,0,none⟩) ap];exact aw
 have aY:((kn:Int) != (arn kk:Int))=true:=by rw [bne_iff_ne];omega
 have aI:Hid (okk=false\/Nok t O):=by
  cases hob:ar with
  | true=>obtain ⟨_,e,_⟩:=ax.out hob;exact .inr (nok_many aC.out ah aD.out (by rw [au.out,<- e];exact am))
  | false=>refine .inl ?_;cases hok:okk with | false=>rfl | true=>have:=az.out hok;rw [hob] at this;cases this
 clear am ae ak af ab aF aG;go_upto_region 21 with fail;generalize wc.alloc (.cells #[.int .i64 0,.int .i64 1,.int .i64 1,.int .i64 2,.int .i64 2,.int .i64 2,.int .i64 2] 3)=wT at *;clear aE aa aq d0 d1 aA;have aJ:Hid (Swt s w gc gl N cl i false _):=.inl ⟨rfl,ay.out aI.out,aH,ai⟩;go_wp2
 all_goals
  exact hK.out false _ (aJ.out)
theorem swG1:SwG λhd r m kn kk=>hd≠outB/\r=(kk:Int)/\vb kk=hd/\1<=kk/\kk<7/\¬ 0<m/\kn=arn kk/\kk=1:=by
 rintro s w wc gc gl N cl i n cg m co ag ao G O t hd k gw cw kn cn B2 an r okk az HR HT aR aA bb aS am aB ap af a6 aC aN aT aO aU aV bc d0 d1 a7 aW be bf hN bg a5 bh bi kk ⟨ai,aX,aD,aq,aj,bj,ah,hk⟩ K' K1 K2 K3;intros;rename_i hK;conv=>arg 2;whnf
 have he:(hd.toList == [111,117,116])=false:=by rw [<- outB_list];exact tl_no ai
 have bk:Hid (tx (wds t) 0≠outB):=by unfold Hid;rw [aA.out];exact ai
 clear ai;go_upto_region 20 with fail;clear he;have aY:Hid (tx (wds t) 0=vb kk):=by unfold Hid;rw [aA.out,aD]
 subst aX;clear aD aS;obtain rfl:m=0:=by omega
 have aE:Hid (O = []):=by have:=am.lo;exact List.eq_nil_of_length_eq_zero this
 have aZ:=tbl7_cell wc aj;have ad:Below wc.heap.size wc (wc.alloc (.cells #[.int .i64 0,.int .i64 1,.int .i64 1,.int .i64 2,.int .i64 2,.int .i64 2,.int .i64 2] 3)):=bal _ _;have aa:=am.below ad;have aF:=own_below aB ad;have aG:=ap.below ad ap.lt;have ab:=btr af ad;have aP:(wc.alloc (.cells #[.int .i64 0,.int .i64 1,.int .i64 1,.int .i64 2,.int .i64 2,.int .i64 2,.int .i64 2] 3)).cell? ⟨gw,0,none⟩=some (.string hd):=by rw [ad.cell (p:=⟨gw,0,none⟩) aN];exact aC
 have a0:((kn:Int) != (arn kk:Int))=false:=by rw [ah];simp
 have a1:az=true:=by
  cases az with
  | true=>rfl
  | false=>
   exfalso;have h1:=aO.out rfl;rcases arn_of aq aj with ⟨_,e⟩ | ⟨_,e⟩ | ⟨_,e⟩ | ⟨_,e⟩ <;> omega
 obtain ⟨ak,rfl,aH⟩:=aT.out a1;have aI:=own_below aH ad;have ar:okn (ags t) (arn kk):=by rw [<- ah];exact ak
 have a2:Hid (okk=true->Rds (lns s) (i+1) (G ++ [gof kk t]) []):=λ_=>⟨G,O,HR.out,.inl ⟨gof kk t,by rw [HT.out];exact ⟨kk,⟨aq,aj⟩,aY.out,by rw [aR.out,ah],ar,rfl⟩,aE.out,rfl,rfl⟩⟩;obtain ⟨x0,au⟩:=nmd (agn t 0);obtain ⟨x1,aJ⟩:=nmd (agn t 1);have av:Hid (0<kn->(zns (nbl (ags t) kn))[0]? = some (.int .i64 x0)):=λe=>by rw [<- au.out];simp [zns,nbl,agn,e]
 have bl:Hid (1<kn->(zns (nbl (ags t) kn))[1]? = some (.int .i64 x1)):=λe=>by rw [<- aJ.out];simp [zns,nbl,agn,e]
 have aK:0<kn->0<=x0/\x0<=9999999999:=λe=>by rw [<- au.out];exact ag_bd ak e
 have bm:1<kn->0<=x1/\x1<=9999999999:=λe=>by rw [<- aJ.out];exact ag_bd ak e
 clear am aB ap af aH ak ar;go_upto_region 22 with fail;generalize wc.alloc (.cells #[.int .i64 0,.int .i64 1,.int .i64 1,.int .i64 2,.int .i64 2,.int .i64 2,.int .i64 2] 3)=wT at *;clear aZ a0 ad aC aP d0 d1 aW;obtain ⟨d0,d1⟩:=aa.box.cells;have a8:=aa.box.lt;have aQ:=ab.size;subst hk;have ea:arn 1=1:=rfl;rw [ea] at ah;subst ah;have aK:=aK (by omega);have av:=av.out (by omega);obtain ⟨gn,u0,rfl,_,a9,a3,ba⟩:=own_at aI (k:=0) (by omega);obtain rfl:u0 = .int .i64 x0:=(Option.some.inj (av.symm.trans a3)).symm;have al:wT.drew.ownsRow w.heap.size 138 4 (.slice ag n cg) n (gcs G):=aa.own;have a4:Hid (gcs G ++ [.int .i64 1,.int .i64 x0,.int .i64 0,.int .u64 0]=gcs (G ++ [gof 1 t])):=by unfold Hid;rw [<- gcs_snoc];simp [gof,au.out]
 have aL:Hid (∀g7 c7 w7,w7.ownsRow w.heap.size 138 4 (.slice (some ⟨g7,0,none⟩) (n+1) c7) (n+1) (gcs (G ++ [gof 1 t]))->wT.drew.grownBy w7 (Value.slice ag n cg).ownBlock->
   ((∃x,w7.cell? ⟨gc,0,none⟩=some x)/\w7.frozen? ⟨gc,0,none⟩=false)/\Swt s w gc gl N cl i okk (w7.setCell ⟨gc,0,none⟩ (.slice (some ⟨g7,0,none⟩) (n+1) c7))):=λg7 c7 w7 ho hg=>by
  have ae:Crd wT.drew w.heap.size gc ag n cg ao 0 co G O:=⟨aa.box,aa.ln,aa.lo,aa.own,aa.ins⟩;have aw:=ae.box.grown hg (box_apart ae.box ae.own eGC);have aM:CBox wT.drew w.heap.size none 0 0 none 0 0:=aG;have q2:=own_beside (i:=0) (u:=(.slice (some ⟨g7,0,none⟩) (n+1) c7)) (show wT.drew.ownsRow _ _ _ _ _ _ from aF) ae.own (λe=>eSG e.symm) eSC hg aw;have q3:CBox (w7.setCell ⟨gc,0,none⟩ (.slice (some ⟨g7,0,none⟩) (n+1) c7)) w.heap.size none 0 0 none 0 0:=(aM.grown hg (box_apart aM ae.own eGC)).other (by omega);have q4:Below w.heap.size w (w7.setCell ⟨gc,0,none⟩ (.slice (some ⟨g7,0,none⟩) (n+1) c7)):=((ab.drew).grown hg (by exact ab.size) (λq hq=>(ae.own.lt q hq).1)).setCell (p:=⟨gc,0,none⟩) (show w.heap.size<=gc by omega) _;refine ⟨⟨⟨_,aw.cells.1⟩,aw.frozen 0⟩,?_⟩
  cases hok:okk with
  | true=>exact .inr ⟨rfl,aV.out hok,n+1,c7,0,co,_,ao,_,O,by rw [aE.out];exact a2.out hok,ae.gate ho hg,q2,q3,by omega,by omega,q4⟩
  | false=>exact .inl ⟨rfl,aU.out (.inl hok),q3,q4⟩
 clear aa aF aG ab aI;go_wp2;go_region_law (refine step_appZ Tryz.underlying87 infoGt rfl (by decide) (by decide) wT.drew rfl _ _ rfl w.heap.size _ _ _ rfl al [.int .i64 1,.int .i64 x0,.int .i64 0,.int .u64 0] rfl (by intro u hu;simp at hu;rcases hu with rfl | rfl | rfl | rfl <;> rfl) rfl rfl (by omega) (by exact aQ) ?_;intro g7 c7 w7 ax ay _;rw [a4.out] at ax;obtain ⟨⟨⟨xx,dd⟩,ff⟩,hE⟩:=aL.out g7 c7 w7 ax ay;have bo:=World.block_lt_of_cell? w7 _ dd;have HE:Hid (Swt s w gc gl N cl i okk _):=hE;clear ax ay hE)
 all_goals
  clear aL al;go_wp2;exact hK.out okk _ (HE.out)
theorem swG2:SwG λhd r m kn kk=>hd≠outB/\r=(kk:Int)/\vb kk=hd/\1<=kk/\kk<7/\¬ 0<m/\kn=arn kk/\kk=2:=by
 rintro s w wc gc gl N cl i n cg m co ag ao G O t hd k gw cw kn cn B2 an r okk az HR HT aR aA bb aS am aB ap af a6 aC aN aT aO aU aV bc d0 d1 a7 aW be bf hN bg a5 bh bi kk ⟨ai,aX,aD,aq,aj,bj,ah,hk⟩ K' K1 K2 K3;intros;rename_i hK;conv=>arg 2;whnf
 have he:(hd.toList == [111,117,116])=false:=by rw [<- outB_list];exact tl_no ai
 have bk:Hid (tx (wds t) 0≠outB):=by unfold Hid;rw [aA.out];exact ai
 clear ai;go_upto_region 20 with fail;clear he;have aY:Hid (tx (wds t) 0=vb kk):=by unfold Hid;rw [aA.out,aD]
 subst aX;clear aD aS;obtain rfl:m=0:=by omega
 have aE:Hid (O = []):=by have:=am.lo;exact List.eq_nil_of_length_eq_zero this
 have aZ:=tbl7_cell wc aj;have ad:Below wc.heap.size wc (wc.alloc (.cells #[.int .i64 0,.int .i64 1,.int .i64 1,.int .i64 2,.int .i64 2,.int .i64 2,.int .i64 2] 3)):=bal _ _;have aa:=am.below ad;have aF:=own_below aB ad;have aG:=ap.below ad ap.lt;have ab:=btr af ad;have aP:(wc.alloc (.cells #[.int .i64 0,.int .i64 1,.int .i64 1,.int .i64 2,.int .i64 2,.int .i64 2,.int .i64 2] 3)).cell? ⟨gw,0,none⟩=some (.string hd):=by rw [ad.cell (p:=⟨gw,0,none⟩) aN];exact aC
 have a0:((kn:Int) != (arn kk:Int))=false:=by rw [ah];simp
 have a1:az=true:=by
  cases az with
  | true=>rfl
  | false=>
   exfalso;have h1:=aO.out rfl;rcases arn_of aq aj with ⟨_,e⟩ | ⟨_,e⟩ | ⟨_,e⟩ | ⟨_,e⟩ <;> omega
 obtain ⟨ak,rfl,aH⟩:=aT.out a1;have aI:=own_below aH ad;have ar:okn (ags t) (arn kk):=by rw [<- ah];exact ak
 have a2:Hid (okk=true->Rds (lns s) (i+1) (G ++ [gof kk t]) []):=λ_=>⟨G,O,HR.out,.inl ⟨gof kk t,by rw [HT.out];exact ⟨kk,⟨aq,aj⟩,aY.out,by rw [aR.out,ah],ar,rfl⟩,aE.out,rfl,rfl⟩⟩;obtain ⟨x0,au⟩:=nmd (agn t 0);obtain ⟨x1,aJ⟩:=nmd (agn t 1);have av:Hid (0<kn->(zns (nbl (ags t) kn))[0]? = some (.int .i64 x0)):=λe=>by rw [<- au.out];simp [zns,nbl,agn,e]
 have bl:Hid (1<kn->(zns (nbl (ags t) kn))[1]? = some (.int .i64 x1)):=λe=>by rw [<- aJ.out];simp [zns,nbl,agn,e]
 have aK:0<kn->0<=x0/\x0<=9999999999:=λe=>by rw [<- au.out];exact ag_bd ak e
 have bm:1<kn->0<=x1/\x1<=9999999999:=λe=>by rw [<- aJ.out];exact ag_bd ak e
 clear am aB ap af aH ak ar;go_upto_region 22 with fail;generalize wc.alloc (.cells #[.int .i64 0,.int .i64 1,.int .i64 1,.int .i64 2,.int .i64 2,.int .i64 2,.int .i64 2] 3)=wT at *;clear aZ a0 ad aC aP d0 d1 aW;obtain ⟨d0,d1⟩:=aa.box.cells;have a8:=aa.box.lt;have aQ:=ab.size;subst hk;have ea:arn 2=1:=rfl;rw [ea] at ah;subst ah;have aK:=aK (by omega);have av:=av.out (by omega);have bo:IntKind.u64.wrap x0=x0:=by rw [IntKind.wrap_u64];omega
 obtain ⟨gn,u0,rfl,_,a9,a3,ba⟩:=own_at aI (k:=0) (by omega);obtain rfl:u0 = .int .i64 x0:=(Option.some.inj (av.symm.trans a3)).symm;have al:wT.drew.ownsRow w.heap.size 138 4 (.slice ag n cg) n (gcs G):=aa.own;have a4:Hid (gcs G ++ [.int .i64 2,.int .i64 0,.int .i64 0,.int .u64 x0]=gcs (G ++ [gof 2 t])):=by unfold Hid;rw [<- gcs_snoc];simp [gof,au.out]
 have aL:Hid (∀g7 c7 w7,w7.ownsRow w.heap.size 138 4 (.slice (some ⟨g7,0,none⟩) (n+1) c7) (n+1) (gcs (G ++ [gof 2 t]))->wT.drew.grownBy w7 (Value.slice ag n cg).ownBlock->
   ((∃x,w7.cell? ⟨gc,0,none⟩=some x)/\w7.frozen? ⟨gc,0,none⟩=false)/\Swt s w gc gl N cl i okk (w7.setCell ⟨gc,0,none⟩ (.slice (some ⟨g7,0,none⟩) (n+1) c7))):=λg7 c7 w7 ho hg=>by
  have ae:Crd wT.drew w.heap.size gc ag n cg ao 0 co G O:=⟨aa.box,aa.ln,aa.lo,aa.own,aa.ins⟩;have aw:=ae.box.grown hg (box_apart ae.box ae.own eGC);have aM:CBox wT.drew w.heap.size none 0 0 none 0 0:=aG;have q2:=own_beside (i:=0) (u:=(.slice (some ⟨g7,0,none⟩) (n+1) c7)) (show wT.drew.ownsRow _ _ _ _ _ _ from aF) ae.own (λe=>eSG e.symm) eSC hg aw;have q3:CBox (w7.setCell ⟨gc,0,none⟩ (.slice (some ⟨g7,0,none⟩) (n+1) c7)) w.heap.size none 0 0 none 0 0:=(aM.grown hg (box_apart aM ae.own eGC)).other (by omega);have q4:Below w.heap.size w (w7.setCell ⟨gc,0,none⟩ (.slice (some ⟨g7,0,none⟩) (n+1) c7)):=((ab.drew).grown hg (by exact ab.size) (λq hq=>(ae.own.lt q hq).1)).setCell (p:=⟨gc,0,none⟩) (show w.heap.size<=gc by omega) _;refine ⟨⟨⟨_,aw.cells.1⟩,aw.frozen 0⟩,?_⟩
  cases hok:okk with
  | true=>exact .inr ⟨rfl,aV.out hok,n+1,c7,0,co,_,ao,_,O,by rw [aE.out];exact a2.out hok,ae.gate ho hg,q2,q3,by omega,by omega,q4⟩
  | false=>exact .inl ⟨rfl,aU.out (.inl hok),q3,q4⟩
 clear aa aF aG ab aI;go_wp2;go_region_law (refine step_appZ Tryz.underlying87 infoGt rfl (by decide) (by decide) wT.drew rfl _ _ rfl w.heap.size _ _ _ rfl al [.int .i64 2,.int .i64 0,.int .i64 0,.int .u64 x0] rfl (by intro u hu;simp at hu;rcases hu with rfl | rfl | rfl | rfl <;> rfl) rfl rfl (by omega) (by exact aQ) ?_;intro g7 c7 w7 ax ay _;rw [a4.out] at ax;obtain ⟨⟨⟨xx,dd⟩,ff⟩,hE⟩:=aL.out g7 c7 w7 ax ay;have bp:=World.block_lt_of_cell? w7 _ dd;have HE:Hid (Swt s w gc gl N cl i okk _):=hE;clear ax ay hE)
 all_goals
  clear aL al;go_wp2;exact hK.out okk _ (HE.out)
theorem swG6:SwG λhd r m kn kk=>hd≠outB/\r=(kk:Int)/\vb kk=hd/\1<=kk/\kk<7/\¬ 0<m/\kn=arn kk/\kk=6:=by
 rintro s w wc gc gl N cl i n cg m co ag ao G O t hd k gw cw kn cn B2 an r okk aC HR HT aT aD bg aU am aE ap af a9 aF aP aV aQ aW aX bh d0 d1 ba aY bi bj hN bk a8 bl bm kk ⟨ai,aZ,aG,aq,aj,bo,ah,hk⟩ K' K1 K2 K3;intros;rename_i hK;conv=>arg 2;whnf
 have he:(hd.toList == [111,117,116])=false:=by rw [<- outB_list];exact tl_no ai
 have bp:Hid (tx (wds t) 0≠outB):=by unfold Hid;rw [aD.out];exact ai
 clear ai;go_upto_region 20 with fail;clear he;have a0:Hid (tx (wds t) 0=vb kk):=by unfold Hid;rw [aD.out,aG]
 subst aZ;clear aG aU;obtain rfl:m=0:=by omega
 have aH:Hid (O = []):=by have:=am.lo;exact List.eq_nil_of_length_eq_zero this
 have a1:=tbl7_cell wc aj;have ad:Below wc.heap.size wc (wc.alloc (.cells #[.int .i64 0,.int .i64 1,.int .i64 1,.int .i64 2,.int .i64 2,.int .i64 2,.int .i64 2] 3)):=bal _ _;have aa:=am.below ad;have aI:=own_below aE ad;have aJ:=ap.below ad ap.lt;have ab:=btr af ad;have aR:(wc.alloc (.cells #[.int .i64 0,.int .i64 1,.int .i64 1,.int .i64 2,.int .i64 2,.int .i64 2,.int .i64 2] 3)).cell? ⟨gw,0,none⟩=some (.string hd):=by rw [ad.cell (p:=⟨gw,0,none⟩) aP];exact aF
 have a2:((kn:Int) != (arn kk:Int))=false:=by rw [ah];simp
 have a3:aC=true:=by
  cases aC with
  | true=>rfl
  | false=>
   exfalso;have h1:=aQ.out rfl;rcases arn_of aq aj with ⟨_,e⟩ | ⟨_,e⟩ | ⟨_,e⟩ | ⟨_,e⟩ <;> omega
 obtain ⟨ak,rfl,aK⟩:=aV.out a3;have ar:=own_below aK ad;have au:okn (ags t) (arn kk):=by rw [<- ah];exact ak
 have a4:Hid (okk=true->Rds (lns s) (i+1) (G ++ [gof kk t]) []):=λ_=>⟨G,O,HR.out,.inl ⟨gof kk t,by rw [HT.out];exact ⟨kk,⟨aq,aj⟩,a0.out,by rw [aT.out,ah],au,rfl⟩,aH.out,rfl,rfl⟩⟩;obtain ⟨x0,av⟩:=nmd (agn t 0);obtain ⟨x1,aw⟩:=nmd (agn t 1);have ax:Hid (0<kn->(zns (nbl (ags t) kn))[0]? = some (.int .i64 x0)):=λe=>by rw [<- av.out];simp [zns,nbl,agn,e]
 have ay:Hid (1<kn->(zns (nbl (ags t) kn))[1]? = some (.int .i64 x1)):=λe=>by rw [<- aw.out];simp [zns,nbl,agn,e]
 have aL:0<kn->0<=x0/\x0<=9999999999:=λe=>by rw [<- av.out];exact ag_bd ak e
 have aM:1<kn->0<=x1/\x1<=9999999999:=λe=>by rw [<- aw.out];exact ag_bd ak e
 clear am aE ap af aK ak au;go_upto_region 22 with fail;generalize wc.alloc (.cells #[.int .i64 0,.int .i64 1,.int .i64 1,.int .i64 2,.int .i64 2,.int .i64 2,.int .i64 2] 3)=wT at *;clear a1 a2 ad aF aR d0 d1 aY;obtain ⟨d0,d1⟩:=aa.box.cells;have bb:=aa.box.lt;have aS:=ab.size;subst hk;have ea:arn 6=2:=rfl;rw [ea] at ah;subst ah;have aL:=aL (by omega);have aM:=aM (by omega);have ax:=ax.out (by omega);have ay:=ay.out (by omega);have bq:IntKind.u64.wrap x1=x1:=by rw [IntKind.wrap_u64];omega
 obtain ⟨gn,u0,rfl,_,bc,a5,be⟩:=own_at ar (k:=0) (by omega);obtain rfl:u0 = .int .i64 x0:=(Option.some.inj (ax.symm.trans a5)).symm;obtain ⟨br,u1,e1,_,_,a6,bf⟩:=own_at ar (k:=1) (by omega);simp only [Option.some.injEq,Addr.mk.injEq,and_true] at e1;subst e1;obtain rfl:u1 = .int .i64 x1:=(Option.some.inj (ay.symm.trans a6)).symm;have al:wT.drew.ownsRow w.heap.size 138 4 (.slice ag n cg) n (gcs G):=aa.own;have a7:Hid (gcs G ++ [.int .i64 6,.int .i64 x0,.int .i64 0,.int .u64 x1]=gcs (G ++ [gof 6 t])):=by unfold Hid;rw [<- gcs_snoc];simp [gof,av.out,aw.out]
 have aN:Hid (∀g7 c7 w7,w7.ownsRow w.heap.size 138 4 (.slice (some ⟨g7,0,none⟩) (n+1) c7) (n+1) (gcs (G ++ [gof 6 t]))->wT.drew.grownBy w7 (Value.slice ag n cg).ownBlock->
   ((∃x,w7.cell? ⟨gc,0,none⟩=some x)/\w7.frozen? ⟨gc,0,none⟩=false)/\Swt s w gc gl N cl i okk (w7.setCell ⟨gc,0,none⟩ (.slice (some ⟨g7,0,none⟩) (n+1) c7))):=λg7 c7 w7 ho hg=>by
  have ae:Crd wT.drew w.heap.size gc ag n cg ao 0 co G O:=⟨aa.box,aa.ln,aa.lo,aa.own,aa.ins⟩;have az:=ae.box.grown hg (box_apart ae.box ae.own eGC);have aO:CBox wT.drew w.heap.size none 0 0 none 0 0:=aJ;have q2:=own_beside (i:=0) (u:=(.slice (some ⟨g7,0,none⟩) (n+1) c7)) (show wT.drew.ownsRow _ _ _ _ _ _ from aI) ae.own (λe=>eSG e.symm) eSC hg az;have q3:CBox (w7.setCell ⟨gc,0,none⟩ (.slice (some ⟨g7,0,none⟩) (n+1) c7)) w.heap.size none 0 0 none 0 0:=(aO.grown hg (box_apart aO ae.own eGC)).other (by omega);have q4:Below w.heap.size w (w7.setCell ⟨gc,0,none⟩ (.slice (some ⟨g7,0,none⟩) (n+1) c7)):=((ab.drew).grown hg (by exact ab.size) (λq hq=>(ae.own.lt q hq).1)).setCell (p:=⟨gc,0,none⟩) (show w.heap.size<=gc by omega) _;refine ⟨⟨⟨_,az.cells.1⟩,az.frozen 0⟩,?_⟩
  cases hok:okk with
  | true=>exact .inr ⟨rfl,aX.out hok,n+1,c7,0,co,_,ao,_,O,by rw [aH.out];exact a4.out hok,ae.gate ho hg,q2,q3,by omega,by omega,q4⟩
  | false=>exact .inl ⟨rfl,aW.out (.inl hok),q3,q4⟩
 clear aa aI aJ ab ar;go_wp2;go_region_law (refine step_appZ Tryz.underlying87 infoGt rfl (by decide) (by decide) wT.drew rfl _ _ rfl w.heap.size _ _ _ rfl al [.int .i64 6,.int .i64 x0,.int .i64 0,.int .u64 x1] rfl (by intro u hu;simp at hu;rcases hu with rfl | rfl | rfl | rfl <;> rfl) rfl rfl (by omega) (by exact aS) ?_;intro g7 c7 w7 aA aB _;rw [a7.out] at aA;obtain ⟨⟨⟨xx,dd⟩,ff⟩,hE⟩:=aN.out g7 c7 w7 aA aB;have bu:=World.block_lt_of_cell? w7 _ dd;have HE:Hid (Swt s w gc gl N cl i okk _):=hE;clear aA aB hE)
 all_goals
  clear aN al;go_wp2;exact hK.out okk _ (HE.out)
theorem swG3:SwG λhd r m kn kk=>hd≠outB/\r=(kk:Int)/\vb kk=hd/\1<=kk/\kk<7/\¬ 0<m/\kn=arn kk/\(kk=3\/kk=4\/kk=5):=by
 rintro s w wc gc gl N cl i n cg m co ag ao G O t hd k gw cw kn cn B2 an r okk aD HR HT aU aE bh aV am aF ap af ba aG aQ aW aR aX aY bi d0 d1 bb aZ bj bk hN bl a9 bm bo kk ⟨ai,a0,aH,aq,aj,bp,ah,aC⟩ K' K1 K2 K3;intros;rename_i hK;conv=>arg 2;whnf
 have he:(hd.toList == [111,117,116])=false:=by rw [<- outB_list];exact tl_no ai
 have bq:Hid (tx (wds t) 0≠outB):=by unfold Hid;rw [aE.out];exact ai
 clear ai;go_upto_region 20 with fail;clear he;have a1:Hid (tx (wds t) 0=vb kk):=by unfold Hid;rw [aE.out,aH]
 subst a0;clear aH aV;obtain rfl:m=0:=by omega
 have aI:Hid (O = []):=by have:=am.lo;exact List.eq_nil_of_length_eq_zero this
 have a2:=tbl7_cell wc aj;have ad:Below wc.heap.size wc (wc.alloc (.cells #[.int .i64 0,.int .i64 1,.int .i64 1,.int .i64 2,.int .i64 2,.int .i64 2,.int .i64 2] 3)):=bal _ _;have aa:=am.below ad;have aJ:=own_below aF ad;have aK:=ap.below ad ap.lt;have ab:=btr af ad;have aS:(wc.alloc (.cells #[.int .i64 0,.int .i64 1,.int .i64 1,.int .i64 2,.int .i64 2,.int .i64 2,.int .i64 2] 3)).cell? ⟨gw,0,none⟩=some (.string hd):=by rw [ad.cell (p:=⟨gw,0,none⟩) aQ];exact aG
 have a3:((kn:Int) != (arn kk:Int))=false:=by rw [ah];simp
 have a4:aD=true:=by
  cases aD with
  | true=>rfl
  | false=>
   exfalso;have h1:=aR.out rfl;rcases arn_of aq aj with ⟨_,e⟩ | ⟨_,e⟩ | ⟨_,e⟩ | ⟨_,e⟩ <;> omega
 obtain ⟨ak,rfl,aL⟩:=aW.out a4;have ar:=own_below aL ad;have au:okn (ags t) (arn kk):=by rw [<- ah];exact ak
 have a5:Hid (okk=true->Rds (lns s) (i+1) (G ++ [gof kk t]) []):=λ_=>⟨G,O,HR.out,.inl ⟨gof kk t,by rw [HT.out];exact ⟨kk,⟨aq,aj⟩,a1.out,by rw [aU.out,ah],au,rfl⟩,aI.out,rfl,rfl⟩⟩;obtain ⟨x0,av⟩:=nmd (agn t 0);obtain ⟨x1,aw⟩:=nmd (agn t 1);have ax:Hid (0<kn->(zns (nbl (ags t) kn))[0]? = some (.int .i64 x0)):=λe=>by rw [<- av.out];simp [zns,nbl,agn,e]
 have ay:Hid (1<kn->(zns (nbl (ags t) kn))[1]? = some (.int .i64 x1)):=λe=>by rw [<- aw.out];simp [zns,nbl,agn,e]
 have aM:0<kn->0<=x0/\x0<=9999999999:=λe=>by rw [<- av.out];exact ag_bd ak e
 have aN:1<kn->0<=x1/\x1<=9999999999:=λe=>by rw [<- aw.out];exact ag_bd ak e
 clear am aF ap af aL ak au;go_upto_region 22 with fail;generalize wc.alloc (.cells #[.int .i64 0,.int .i64 1,.int .i64 1,.int .i64 2,.int .i64 2,.int .i64 2,.int .i64 2] 3)=wT at *;clear a2 a3 ad aG aS d0 d1 aZ;obtain ⟨d0,d1⟩:=aa.box.cells;have bc:=aa.box.lt;have aT:=ab.size;have ea:arn kk=2:=by rcases aC with rfl | rfl | rfl <;> rfl
 rw [ea] at ah;subst ah;have aM:=aM (by omega);have aN:=aN (by omega);have ax:=ax.out (by omega);have ay:=ay.out (by omega);have br:((kk:Int)==1)=false:=by rw [beq_eq_false_iff_ne];omega
 have bu:((kk:Int)==2)=false:=by rw [beq_eq_false_iff_ne];omega
 have bv:((kk:Int)==6)=false:=by rw [beq_eq_false_iff_ne];omega
 obtain ⟨gn,u0,rfl,_,be,a6,bf⟩:=own_at ar (k:=0) (by omega);obtain rfl:u0 = .int .i64 x0:=(Option.some.inj (ax.symm.trans a6)).symm;obtain ⟨bw,u1,e1,_,_,a7,bg⟩:=own_at ar (k:=1) (by omega);simp only [Option.some.injEq,Addr.mk.injEq,and_true] at e1;subst e1;obtain rfl:u1 = .int .i64 x1:=(Option.some.inj (ay.symm.trans a7)).symm;have al:wT.drew.ownsRow w.heap.size 138 4 (.slice ag n cg) n (gcs G):=aa.own;have a8:Hid (gcs G ++ [.int .i64 (kk:Int),.int .i64 x0,.int .i64 x1,.int .u64 0]=gcs (G ++ [gof kk t])):=by unfold Hid gof;rw [if_neg (by omega),if_neg (by omega),if_neg (by omega),<- gcs_snoc,av.out,aw.out]
 have aO:Hid (∀g7 c7 w7,w7.ownsRow w.heap.size 138 4 (.slice (some ⟨g7,0,none⟩) (n+1) c7) (n+1) (gcs (G ++ [gof kk t]))->wT.drew.grownBy w7 (Value.slice ag n cg).ownBlock->
   ((∃x,w7.cell? ⟨gc,0,none⟩=some x)/\w7.frozen? ⟨gc,0,none⟩=false)/\Swt s w gc gl N cl i okk (w7.setCell ⟨gc,0,none⟩ (.slice (some ⟨g7,0,none⟩) (n+1) c7))):=λg7 c7 w7 ho hg=>by
  have ae:Crd wT.drew w.heap.size gc ag n cg ao 0 co G O:=⟨aa.box,aa.ln,aa.lo,aa.own,aa.ins⟩;have az:=ae.box.grown hg (box_apart ae.box ae.own eGC);have aP:CBox wT.drew w.heap.size none 0 0 none 0 0:=aK;have q2:=own_beside (i:=0) (u:=(.slice (some ⟨g7,0,none⟩) (n+1) c7)) (show wT.drew.ownsRow _ _ _ _ _ _ from aJ) ae.own (λe=>eSG e.symm) eSC hg az;have q3:CBox (w7.setCell ⟨gc,0,none⟩ (.slice (some ⟨g7,0,none⟩) (n+1) c7)) w.heap.size none 0 0 none 0 0:=(aP.grown hg (box_apart aP ae.own eGC)).other (by omega);have q4:Below w.heap.size w (w7.setCell ⟨gc,0,none⟩ (.slice (some ⟨g7,0,none⟩) (n+1) c7)):=((ab.drew).grown hg (by exact ab.size) (λq hq=>(ae.own.lt q hq).1)).setCell (p:=⟨gc,0,none⟩) (show w.heap.size<=gc by omega) _;refine ⟨⟨⟨_,az.cells.1⟩,az.frozen 0⟩,?_⟩
  cases hok:okk with
  | true=>exact .inr ⟨rfl,aY.out hok,n+1,c7,0,co,_,ao,_,O,by rw [aI.out];exact a5.out hok,ae.gate ho hg,q2,q3,by omega,by omega,q4⟩
  | false=>exact .inl ⟨rfl,aX.out (.inl hok),q3,q4⟩
 clear aa aJ aK ab ar;go_wp2;go_region_law (refine step_appZ Tryz.underlying87 infoGt rfl (by decide) (by decide) wT.drew rfl _ _ rfl w.heap.size _ _ _ rfl al [.int .i64 (kk:Int),.int .i64 x0,.int .i64 x1,.int .u64 0] rfl (by intro u hu;simp at hu;rcases hu with rfl | rfl | rfl | rfl <;> rfl) rfl rfl (by omega) (by exact aT) ?_;intro g7 c7 w7 aA aB _;rw [a8.out] at aA;obtain ⟨⟨⟨xx,dd⟩,ff⟩,hE⟩:=aO.out g7 c7 w7 aA aB;have bx:=World.block_lt_of_cell? w7 _ dd;have HE:Hid (Swt s w gc gl N cl i okk _):=hE;clear aA aB hE)
 all_goals
  clear aO al;go_wp2;exact hK.out okk _ (HE.out)
theorem swAll:SwG λhd r m kn kk=>True:=by
 rintro s w wc gc gl N cl i n cg m co ag ao G O t hd k gw cw kn cn B2 an r okk aI HR HT al am ai ap aq ar au aa ad av ae aw af ax ay az d0 d1 ah aA aB aC hN aD ab aE aF kk _ K' K1 K2 K3;intros;rename_i hK;by_cases hout:hd=outB
 ·exact swOut HR HT al am ai ap aq ar au aa ad av ae aw af ax ay az d0 d1 ah aA aB aC hN aD ab aE aF 0 hout hK
 by_cases hr1:r<1
 ·exact swBad1 HR HT al am ai ap aq ar au aa ad av ae aw af ax ay az d0 d1 ah aA aB aC hN aD ab aE aF 0 ⟨hout,hr1⟩ hK
 obtain ⟨kk,aG,aH⟩:∃kk:Nat,r=(kk:Int)/\vb kk=hd:=by
  rcases ai.out with ⟨kk,_,e1,e2⟩ | ⟨_,e2⟩
  ·exact ⟨kk,e2,e1⟩
  ·omega
 have aj:1<=kk:=by omega
 have ak:kk<7:=by omega
 by_cases hm0:0<m
 ·exact swBad2 HR HT al am ai ap aq ar au aa ad av ae aw af ax ay az d0 d1 ah aA aB aC hN aD ab aE aF kk ⟨hout,aG,aH,aj,ak,hm0⟩ hK
 by_cases hka:kn=arn kk
 ·have hc:kk=1\/kk=2\/kk=6\/(kk=3\/kk=4\/kk=5):=by omega
  rcases hc with hc | hc | hc | hc
  ·exact swG1 HR HT al am ai ap aq ar au aa ad av ae aw af ax ay az d0 d1 ah aA aB aC hN aD ab aE aF kk ⟨hout,aG,aH,aj,ak,hm0,hka,hc⟩ hK
  ·exact swG2 HR HT al am ai ap aq ar au aa ad av ae aw af ax ay az d0 d1 ah aA aB aC hN aD ab aE aF kk ⟨hout,aG,aH,aj,ak,hm0,hka,hc⟩ hK
  ·exact swG6 HR HT al am ai ap aq ar au aa ad av ae aw af ax ay az d0 d1 ah aA aB aC hN aD ab aE aF kk ⟨hout,aG,aH,aj,ak,hm0,hka,hc⟩ hK
  ·exact swG3 HR HT al am ai ap aq ar au aa ad av ae aw af ax ay az d0 d1 ah aA aB aC hN aD ab aE aF kk ⟨hout,aG,aH,aj,ak,hm0,hka,hc⟩ hK
 ·exact swBad3 HR HT al am ai ap aq ar au aa ad av ae aw af ax ay az d0 d1 ah aA aB aC hN aD ab aE aF kk ⟨hout,aG,aH,aj,ak,hm0,hka⟩ hK
theorem rReadL (s:ByteArray) (w) (hs:s.size<=9223372036854775807) (hbig:2048<s.size):
  Calls Tryz.prog 77 #[.string s] w λe w'=>Prd s w e w':=by
 have hZ:=CBox.new w none 0 0 none 0 0;have aa:Below w.heap.size w (w.alloc (.cells #[.slice none 0 0,.slice none 0 0] 89)):=bal _ _;have HP:Hid (Par s [] [] 0 2):=.inl ⟨hbig,rfl,rfl,rfl,rfl⟩;go_enter Tryz.func77,Tryz.ntmps77;go_upto_region 1 with fail;generalize w.alloc (.cells #[.slice none 0 0,.slice none 0 0] 89)=w0 at *;obtain ⟨z0,z1⟩:=hZ.cells;have f0:=hZ.frozen 0;have f1:=hZ.frozen 1;have zl:=hZ.lt;obtain ⟨y0,y1⟩:=two_put (x:=.slice none 0 0) (y:=.slice none 0 0) z0 z1;have ab:Hid (Below w.heap.size w ((w0.setCell ⟨w.heap.size,0,none⟩ (.slice none 0 0)).setCell ⟨w.heap.size,1,none⟩ (.slice none 0 0))):=(aa.setCell (p:=⟨w.heap.size,0,none⟩) (Nat.le_refl _) _).setCell (p:=⟨w.heap.size,1,none⟩) (Nat.le_refl _) _;clear aa hZ;go_wp2;exact bodyPost_ret (v:=.tuple #[.agg #[.slice none 0 0,.slice none 0 0],.int .i64 0,.int .i64 2]) (by simp [results,Tryz.results77,go_sem,y0,y1]) rfl (Prd.err HP.out rfl ab.out)
theorem rReadS (s:ByteArray) (w) (hs:s.size<=2048) (hV:Vb w):
  Calls Tryz.prog 77 #[.string s] w λe w'=>Prd s w e w':=by
 have aJ:=CBox.new w none 0 0 none 0 0;have aD:Below w.heap.size w (w.alloc (.cells #[.slice none 0 0,.slice none 0 0] 89)):=bal _ _;go_enter Tryz.func77,Tryz.ntmps77;go_upto_region 1 with fail;generalize w.alloc (.cells #[.slice none 0 0,.slice none 0 0] 89)=w0 at *;go_wp2_with fail;refine (rPieces s 10 _ (by omega) (by omega) (by omega)).mono ?_;rintro e w1 ⟨v,rfl,ak,aC⟩;change w1.ownsRow _ _ _ _ (lns s).length (strs (lns s)) at ak;have al:=lns_len s;obtain ⟨N,HN⟩:=nmd (lnn s);rw [HN.out] at al;have hN:N<=2048:=by
  have:=pcs_len s 10 s.size;unfold lns at al;omega
 have aK:Hid (∀x ∈ lns s,x.size<=2048):=λx hx=>by have:=pcs_size s 10 s.size x hx;omega
 have bm:=hid al;rw [al] at ak;clear al;have aL:=btr aD aC;have aE:=aJ.below aC aJ.lt;obtain ⟨gl,cl,rfl,b0,RT⟩:=RdT.own ak (by omega) (λx hx=>by have:=aK.out x hx;omega);have a1:=own_base ak aD.size;obtain ⟨b,o,y,e,a2,HY,b3,a3⟩:=RT.one (k:=N) (by omega);simp only [Option.some.injEq,Addr.mk.injEq,and_true] at e;obtain ⟨rfl,rfl⟩:=e;rw [Nat.zero_add] at a3;have b4:=RT.cap;have bh:=RT.max;unfold maxLen at bh;obtain ⟨wh,a4⟩:∃wh:Bool,y.toList.isEmpty=wh:=⟨_,rfl⟩;obtain ⟨NL,am⟩:∃NL,Hid ((wh=true/\y=mt/\NL=N)\/(wh=false/\y≠mt/\NL=N+1)):=by
  by_cases ey:y=mt
  ·exact ⟨N,.inl ⟨by rw [<- a4];exact emp_yes ey,ey,rfl⟩⟩
  ·exact ⟨N+1,.inr ⟨by rw [<- a4];exact emp_no ey,ey,rfl⟩⟩
 have hsl:∀W,(Instr.sliceAt 24 (.slice (some ⟨gl,0,none⟩) (N+1) cl) none (some (.int .i64 (N:Int))) none).run Tryz.prog W = .ok (.slice (some ⟨gl,0,none⟩) N cl) W:=λW=>by
  rw [run_sliceAt_slice W 24 _ _ _ _ Tryz.underlying24,run_slice_h W 24 (some ⟨gl,0,none⟩) (N+1) cl (by simp [Program.elem,Tryz.underlying24]) .i64 (N:Int) (by omega) (by omega)];cases hi:Tryz.prog.info? 9 with
  | none=>have:=infoS1t;simp [hi] at this
  | some i=>simp [sizeOf,typeInfo,hi,sliced,Result.andThen,Program.elem,Tryz.underlying24,Addr.add]
 clear ak aD aC aJ;go_upto_if 27 with fail;go_cut [5] (λs5 wx=>s5 = .slice (some ⟨gl,0,none⟩) NL cl/\wx=w1)
 case first=>
  cases wh with
  | true=>
   obtain rfl:NL=N:=by rcases am.out with ⟨_,_,e⟩ | ⟨e,_⟩;exact e;cases e
   go_wp2
   all_goals
    go_meet
    case rel=>exact ⟨rfl,rfl⟩
  | false=>
   obtain rfl:NL=N+1:=by rcases am.out with ⟨e,_⟩ | ⟨_,_,e⟩;cases e;exact e
   go_wp2
   all_goals
    go_meet
    case rel=>exact ⟨rfl,rfl⟩
 case rest=>
  obtain ⟨rfl,rfl⟩:=hcut;have aM:=Crd.start wc w.heap.size;have aF:Below wc.heap.size wc (wc.alloc (.cells #[.slice none 0 0,.slice none 0 0] 89)):=bal _ _;have aw:=own_below a1 aF;have aq:=aE.below aF aE.lt;have ae:=btr aL aF;have a5:w.heap.size<wc.heap.size:=aE.lt;clear a1 aE aL RT a3 hsl aF;go_upto_region 8 with fail;generalize wc.alloc (.cells #[.slice none 0 0,.slice none 0 0] 89)=wA at *;obtain ⟨gc,bo⟩:=nmd wc.heap.size;rw [bo.out] at aM a5 ⊢;go_wp2;go_loopg [8] NL (λgk q wr=>∃(i n cg m co:Nat) (ag ao:Option Addr) (G:List Gt) (O:List Int),gk=NL-i/\i<=N/\q = .int .i64 i/\Hid (Rds (lns s) i G O)/\Crd wr w.heap.size gc ag n cg ao m co G O/\wr.ownsRow w.heap.size 9 1 (.slice (some ⟨gl,0,none⟩) (N+1) cl) (N+1) (strs (lns s))/\CBox wr w.heap.size none 0 0 none 0 0/\n<=i/\m<=i/\Below w.heap.size w wr)
  case atStart=>exact ⟨0,0,0,0,0,none,none,[],[],rfl,Nat.zero_le _,rfl,⟨rfl,rfl⟩,aM,aw,aq,Nat.le_refl _,Nat.le_refl _,ae⟩
  case round=>
   clear aM aw aq ae;obtain ⟨i,n,cg,m,co,ag,ao,G,O,rfl,bp,rfl,HR,hC,hL,hZ,bq,br,ab⟩:=hrel;have bW:Hid (NL<=N+1):=by rcases am.out with ⟨_,_,e⟩ | ⟨_,_,e⟩ <;> (unfold Hid;omega)
   by_cases hlt:i<NL
   ·obtain ⟨_,_,e,_,RT⟩:=RdT.own hL (by omega) (λx hx=>by have:=aK.out x hx;omega);simp only [Value.slice.injEq,Option.some.injEq,Addr.mk.injEq,and_true,true_and] at e;obtain ⟨rfl,rfl⟩:=e;obtain ⟨b,o,t,e,a2,HT,b5,a6⟩:=RT.one (k:=i) (by omega);simp only [Option.some.injEq,Addr.mk.injEq,and_true] at e;obtain ⟨rfl,rfl⟩:=e;rw [Nat.zero_add] at a6;have bX:t.size<=2048:=by
     rw [<- HT.out];refine aK.out _ ?_;unfold tx;rw [List.getD_eq_getElem?_getD,List.getElem?_eq_getElem (by have:=bm.out;omega)];exact List.getElem_mem _
    clear RT;go_wp2_with fail;refine (rPieces t 32 _ (by omega) (by omega) (by omega)).mono ?_;rintro e w2 ⟨v,rfl,hW,ae⟩;change w2.ownsRow _ _ _ _ (wds t).length (strs (wds t)) at hW;have a7:=hC.below ae;have aw:=own_below hL ae;have aq:=hZ.below ae hZ.lt;have av:=btr ab ae;clear hC hL hZ ab ae a6;obtain ⟨k,aN⟩:∃k,Hid ((wds t).length=k+1):=⟨(wds t).length-1,by have:=pcs_len t 32 t.size;unfold Hid wds;omega⟩;have bY:k<=2048:=by
     have:=pcs_len t 32 t.size;have h2:=aN.out;unfold wds at h2;omega
    have a8:Hid ((ags t).length=k):=by unfold Hid ags;rw [List.length_drop,aN.out];rfl
    rw [aN.out] at hW;obtain ⟨gw,cw,rfl,b6,RW⟩:=RdT.own hW (by omega) (λx hx=>by have:=pcs_size t 32 t.size x hx;omega);have aO:=RW.sub1;have bu:=RW.cap;obtain ⟨X,HX⟩:=nmd (subA (some ⟨gw,0,none⟩) cw 1);rw [HX.out] at aO;have hsl:∀W,(Instr.sliceAt 24 (.slice (some ⟨gw,0,none⟩) (k+1) cw) (some (.int .i64 1)) none none).run Tryz.prog W = .ok (.slice X k (cw-1)) W:=λW=>by
     rw [<- HX.out];exact run_subl Tryz.underlying24 infoS1t (some ⟨gw,0,none⟩) (k+1) cw 1 rfl (by omega) W
    clear hW;go_wp2_with fail;refine (rNumbers _ _ _ _ _ aO (by omega)).mono ?_;rintro e w3 ⟨aP,ar⟩;change (¬ okn (ags t) k/\_\/okn (ags t) k/\∃v,_/\w3.ownsRow _ _ _ _ _ (zns (nbl (ags t) k))) at aP;obtain ⟨aa,an,kn,cn,rfl,ax⟩:∃aa an kn cn,e = .returned (.tuple #[.slice an kn cn,.bool aa])/\Hid ((aa=false/\¬ okn (ags t) k/\kn=0)\/(aa=true/\okn (ags t) k/\kn=k/\w3.ownsRow w2.heap.size 3 1 (.slice an kn cn) kn (zns (nbl (ags t) k)))):=by
     rcases aP with ⟨h1,rfl⟩ | ⟨h1,v,rfl,h2⟩
     ·exact ⟨false,none,0,0,rfl,.inl ⟨rfl,h1,rfl⟩⟩
     ·obtain ⟨an,cn,rfl,_⟩:=own_slice h2;exact ⟨true,an,k,cn,rfl,.inr ⟨rfl,h1,rfl,h2⟩⟩
    clear aP;have a9:=a7.below ar;have ba:=own_below aw ar;have aQ:=aq.below ar aq.lt;have ai:=btr av ar;have aR:=RW.below ar;have a0:kn<=2048:=by rcases ax.out with ⟨_,_,e⟩ | ⟨_,_,e,_⟩ <;> omega
    clear a7 aw aq av aO hsl RW ar;obtain ⟨b,o,hd,e,a2,bb,b7,bv⟩:=aR.one (k:=0) (by omega);simp only [Option.some.injEq,Addr.mk.injEq,and_true] at e;obtain ⟨rfl,rfl⟩:=e;obtain ⟨r,HI⟩:=ixt_some hd;have bc:=hid HI;have be:=HI.bd;have bw:=hV.below ai;clear HI;have b8:∀W,(Instr.sliceAt 160 (.pointer (some ⟨1,0,none⟩)) none none none).run Tryz.prog W = .ok (.slice (some ⟨1,0,none⟩) 7 7) W:=λW=>by
     rw [run_sliceAt_array_all W 160 ⟨1,0,none⟩ (by simp [Program.arrayLen,Program.elem,Tryz.underlying160])];have bx:Tryz.prog.elem 160=9:=by simp [Program.elem,Tryz.underlying160]
     cases hi:Tryz.prog.info? 9 with
     | none=>have:=infoS1t;simp [hi] at this
     | some i=>simp [bx,sizeOf,typeInfo,hi,slicedAt,Program.arrayLen,Tryz.underlying160,Result.andThen,Addr.add]
    obtain ⟨okk,aG⟩:∃okk,Hid ((aa=false/\okk=false)\/(aa=true/\((wh=true/\okk=true)\/(wh=false/\okk=decide (i<N))))):=by
     cases aa with
     | false=>exact ⟨false,.inl ⟨rfl,rfl⟩⟩
     | true=>cases wh with
      | true=>exact ⟨true,.inr ⟨rfl,.inl ⟨rfl,rfl⟩⟩⟩
      | false=>exact ⟨_,.inr ⟨rfl,.inr ⟨rfl,rfl⟩⟩⟩
    go_wp2_with fail;go_quiet ((go_at_call 28;exact Calls.quiet_of_same (sIndexV hd r _ bc.out (bw.drewN _))))
    all_goals
     go_upto_region 14 with fail;go_cut [11] from 33 to 165 (λs11 wx=>s11 = .bool okk/\Below w3.heap.size w3 wx)
     case first=>
      rcases aG.out with ⟨rfl,rfl⟩ | ⟨rfl,⟨rfl,rfl⟩ | ⟨rfl,rfl⟩⟩
      ·go_wp2
       all_goals
        go_meet
        case rel=>exact ⟨rfl,drewN_below (Below.refl _ _) _⟩
      ·go_wp2
       all_goals
        go_meet
        case rel=>exact ⟨rfl,drewN_below (Below.refl _ _) _⟩
      ·obtain rfl:NL=N+1:=by rcases am.out with ⟨e,_⟩ | ⟨_,_,e⟩;cases e;exact e
       go_wp2
       all_goals
        go_meet
        case rel=>exact ⟨rfl,drewN_below (Below.refl _ _) _⟩
     case rest=>
      obtain ⟨rfl,ap⟩:=hcut;have au:=a9.below ap;have aS:=own_below ba ap;have aT:=aQ.below ap aQ.lt;have ad:=btr ai ap;have aU:=(aR.below ap).one (k:=0) (by omega);have bi:=ad.size;have aH:wc.cell? ⟨gw,0,none⟩=some (.string hd):=by
       obtain ⟨b,o,bz,e,_,H',_,bA⟩:=aU;simp only [Option.some.injEq,Addr.mk.injEq,and_true] at e;obtain ⟨rfl,rfl⟩:=e;obtain rfl:hd=bz:=bb.out.symm.trans H'.out;simpa using bA
      have bj:gw<wc.heap.size:=World.block_lt_of_cell? wc _ aH;have bB:Hid (aa=true->okn (ags t) k/\kn=k/\wc.ownsRow w2.heap.size 3 1 (.slice an kn cn) kn (zns (nbl (ags t) k))):=λe=>by
       rcases ax.out with ⟨e',_⟩ | ⟨_,h1,h2,h3⟩
       ·rw [e] at e';cases e'
       ·exact ⟨h1,h2,own_below h3 ap⟩
      have bk:Hid (aa=false->kn=0):=λe=>by
       rcases ax.out with ⟨_,_,h1⟩ | ⟨e',_⟩
       ·exact h1
       ·rw [e] at e';cases e'
      have bC:Hid (okk=false\/Nok t O->Par s [] [] (i+1) 3):=λhh=>by
       by_cases aV:i<N
       ·refine .inr ⟨hs,.inl ⟨i,G,O,by rw [HN.out];exact aV,HR.out,?_,rfl,rfl,rfl,rfl⟩⟩;rw [HT.out];rcases hh with hh | hh
        ·rcases aG.out with ⟨e1,_⟩ | ⟨_,⟨_,e2⟩ | ⟨_,e2⟩⟩
         ·rcases ax.out with ⟨_,h1,_⟩ | ⟨e3,_⟩
          ·exact nok_num a8.out h1
          ·rw [e1] at e3;cases e3
         ·rw [hh] at e2;cases e2
         ·rw [hh] at e2;have:=of_decide_eq_false e2.symm;omega
        ·exact hh
       ·have aW:i=N:=by omega
        refine .inr ⟨hs,.inr ⟨G,O,by rw [HN.out,<- aW];exact HR.out,.inl ⟨?_,rfl,rfl,by rw [HN.out,aW],rfl⟩⟩⟩;rw [HN.out,HY.out];rcases am.out with ⟨_,_,e⟩ | ⟨_,e,_⟩
        ·omega
        ·exact e
      have bD:Hid (okk=true->i+1<=N):=λe=>by
       rcases aG.out with ⟨_,e2⟩ | ⟨_,⟨e1,_⟩ | ⟨_,e2⟩⟩
       ·rw [e] at e2;cases e2
       ·rcases am.out with ⟨_,_,e3⟩ | ⟨e3,_⟩
        ·omega
        ·rw [e1] at e3;cases e3
       ·rw [e] at e2;have:=of_decide_eq_true e2.symm;omega
      have bE:Hid (okk=true->aa=true):=λe=>by
       rcases aG.out with ⟨_,e2⟩ | ⟨e1,_⟩
       ·rw [e] at e2;cases e2
       ·exact e1
      obtain ⟨d0,d1⟩:=au.box.cells;have aX:=au.box.lt;have aY:=au.box.frozen 1;have ay:=ad;clear a9 ba aQ ai aR ap aU bv ax;go_upto_block 2 with fail;go_cut [11] from 33 to 165 (λs11 wx=>∃b,s11 = .bool b/\Swt s w gc gl N cl i b wx)
      case first=>
       refine swAll HR HT a8 bb bc be au aS aT ad bi aH bj bB bk bC bD bE d0 d1 aX aY bq br hN bp a0 a5 bu 0 trivial ?_;unfold Hid;intro b;intros;rename_i w' hsw;dsimp only;go_wp2;go_meet
       case rel=>exact ⟨b,rfl,hsw⟩
      case rest=>
       obtain ⟨b,rfl,bF⟩:=hcut;obtain ⟨w8,bG⟩:∃w8,w8=wc:=⟨_,rfl⟩;subst bG;rcases bF with ⟨rfl,bH,aI,bI⟩ | ⟨rfl,aV,n',bJ,m',bK,bL,bM,G',O',bf,bN,bO,bP,b9,ca,bQ⟩
       ·clear au aS aT ad ay aH d0 d1 aY;obtain ⟨z0,z1⟩:=(aI).cells;have f0:=(aI).frozen 0;have f1:=(aI).frozen 1;have zl:=(aI).lt;obtain ⟨y0,y1⟩:=two_put (x:=.slice none 0 0) (y:=.slice none 0 0) z0 z1;have az:Hid (Below w.heap.size w ((w8.setCell ⟨w.heap.size,0,none⟩ (.slice none 0 0)).setCell ⟨w.heap.size,1,none⟩ (.slice none 0 0))):=((bI).setCell (p:=⟨w.heap.size,0,none⟩) (Nat.le_refl _) _).setCell (p:=⟨w.heap.size,1,none⟩) (Nat.le_refl _) _;have bR:=hid bH;go_wp2;exact bodyPost_ret (v:=.tuple #[.agg #[.slice none 0 0,.slice none 0 0],.int .i64 ((i:Int)+1),.int .i64 3]) (by simp [results,Tryz.results77,go_sem,y0,y1]) rfl (Prd.err bR.out (by omega) az.out)
       ·have bS:=hid bf;clear au aS aT ad ay aH d0 d1 aY bf;go_wp2;go_roundg (NL-(i+1))
        case measure=>omega
        case rel=>exact ⟨i+1,n',bJ,m',bK,bL,bM,G',O',rfl,aV,by go_num,bS,bN,bO,bP,by omega,by omega,bQ⟩
   ·have bl:i=N/\y=mt:=by
     rcases am.out with ⟨_,e2,e3⟩ | ⟨_,_,e3⟩
     ·exact ⟨by omega,e2⟩
     ·omega
    obtain ⟨rfl,bg⟩:=bl;obtain ⟨b1,b2⟩:=HR.out.bd;have hG:=RdG.ownA hC.own hC.ln b1;have hI:=RdI.ownA hC.ins b2;obtain ⟨d0,d1⟩:=hC.box.cells;have aX:=hC.box.lt;go_wp2_with fail;refine (rCircuit _ _ _ _ _ _ _ _ _ hG hI).mono ?_;rintro e w5 ⟨r,rfl,aA,aB⟩;have af:=hZ.below aB hZ.lt;have ah:=hC.below aB;have aj:=btr ab aB;obtain ⟨z0,z1⟩:=af.cells;have f0:=af.frozen 0;have f1:=af.frozen 1;have zl:=af.lt;obtain ⟨rfl,rfl⟩:n=G.length/\m=O.length:=⟨hC.ln.symm,hC.lo.symm⟩;have be:=aA.bd;as_aux_lemma=>
     clear d0 d1;obtain ⟨d0,d1⟩:=ah.box.cells;have bV:=ah.box.lt;by_cases hr:r=0
     ·subst hr;have HP:Hid (Par s G O 0 0):=.inr ⟨hs,.inr ⟨G,O,by rw [HN.out];exact HR.out,.inr ⟨by rw [HN.out,HY.out];exact bg,rfl,aA,.inr ⟨rfl,rfl,rfl⟩⟩⟩⟩;obtain ⟨y0,y1⟩:=two_put (x:=.slice ag G.length cg) (y:=.slice ao O.length co) z0 z1;have aZ:w5.grownBy ((w5.setCell ⟨w.heap.size,0,none⟩ (.slice ag G.length cg)).setCell ⟨w.heap.size,1,none⟩ (.slice ao O.length co)) (some w.heap.size):=grown_trans (grown_set _ _ _ _) (grown_set _ _ _ _);have k1:=box_apart af ah.own eGC;have k2:=box_apart af ah.ins eIC;have bT:Hid (World.ownsRow _ _ _ _ _ _ _):=ah.own.kept aZ (.inr (λe=>k1 e.symm));have bU:Hid (World.ownsRow _ _ _ _ _ _ _):=ah.ins.kept aZ (.inr (λe=>k2 e.symm));have az:Hid (Below w.heap.size w ((w5.setCell ⟨w.heap.size,0,none⟩ (.slice ag G.length cg)).setCell ⟨w.heap.size,1,none⟩ (.slice ao O.length co))):=(aj.setCell (p:=⟨w.heap.size,0,none⟩) (Nat.le_refl _) _).setCell (p:=⟨w.heap.size,1,none⟩) (Nat.le_refl _) _;clear hC hL hZ ab hG hI aA aB ah af aj aZ k1 k2;go_wp2;exact bodyPost_ret (v:=.tuple #[.agg #[.slice ag G.length cg,.slice ao O.length co],.int .i64 0,.int .i64 0]) (by simp [results,Tryz.results77,go_sem,y0,y1]) rfl ⟨ag,cg,ao,co,0,0,G,O,rfl,HP.out,bT.out,bU.out,az.out⟩
     ·have HP:Hid (Par s [] [] 0 r):=.inr ⟨hs,.inr ⟨G,O,by rw [HN.out];exact HR.out,.inr ⟨by rw [HN.out,HY.out];exact bg,rfl,aA,.inl ⟨hr,rfl,rfl⟩⟩⟩⟩;obtain ⟨y0,y1⟩:=two_put (x:=.slice none 0 0) (y:=.slice none 0 0) z0 z1;have az:Hid (Below w.heap.size w ((w5.setCell ⟨w.heap.size,0,none⟩ (.slice none 0 0)).setCell ⟨w.heap.size,1,none⟩ (.slice none 0 0))):=(aj.setCell (p:=⟨w.heap.size,0,none⟩) (Nat.le_refl _) _).setCell (p:=⟨w.heap.size,1,none⟩) (Nat.le_refl _) _;have bZ:(r != 0)=true:=by rw [bne_iff_ne];exact hr
      clear hC hL hZ ab hG hI aA aB ah af aj hr;go_wp2;exact bodyPost_ret (v:=.tuple #[.agg #[.slice none 0 0,.slice none 0 0],.int .i64 0,.int .i64 r]) (by simp [results,Tryz.results77,go_sem,y0,y1]) rfl (Prd.err HP.out rfl az.out)
theorem rRead (s:ByteArray) (w) (hs:s.size<=9223372036854775807) (hV:Vb w):Calls Tryz.prog 77 #[.string s] w λe w'=>Prd s w e w':=by
 by_cases h:2048<s.size
 ·exact rReadL s w hs h
 ·exact rReadS s w (by omega) hV
end
end Go.Proofs.YtljlioglpaogdacGreatDoor

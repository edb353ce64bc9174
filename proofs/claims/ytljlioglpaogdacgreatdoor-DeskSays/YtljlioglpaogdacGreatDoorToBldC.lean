/- ItoaC FmtUC BldC -/
import Derived.Test.YtljlioglpaogdacGreatDoorShLay
import Derived.Test.YtljlioglpaogdacGreatDoorToWireC
import Derived.Lib.AppendIntMem
namespace Go.Proofs.YtljlioglpaogdacGreatDoor
set_option linter.unusedVariables false
set_option maxRecDepth 100000
set_option maxHeartbeats 8000000
section
open Go.RowKit Go.Shelf
def Tabs (w:World):Prop:=Lib.TabIs Tryz.prog w "internal/strconv.uint64pow10" .u64 Lib.pow10Tab
theorem Tabs.below {w w'} (h:Tabs w) (hb:Below w.heap.size w w'):Tabs w':=by
 unfold Tabs Lib.TabIs World.var? at h ⊢;cases hg:Tryz.prog.globalNamed "internal/strconv.uint64pow10" with
 | none=>rw [hg] at h;cases h
 | some g=>
  rw [hg] at h;simp only [Option.bind_some] at h ⊢;by_cases hl:g<w.heap.size
  ·rw [hb.block g hl];exact h
  ·rw [Array.getElem?_eq_none (by omega)] at h;cases h
theorem grow_below (w:World) (k:Nat) (os:Array Obj):Below w.heap.size w (Go.Sort.grow (w.drewN k) os):=by
 have hb:=drewN_below (Below.refl w.heap.size w) k;refine ⟨hb.os,hb.tape,hb.output,?_,λi hi=>?_⟩
 ·have:(Go.Sort.grow (w.drewN k) os).heap=(w.drewN k).heap++os:=rfl;have:=hb.size;simp only [*,Array.size_append];omega
 ·have e:(Go.Sort.grow (w.drewN k) os).heap=(w.drewN k).heap++os:=rfl;have:=hb.size;rw [e,Array.getElem?_append_left (by omega)];exact hb.block i hi
def itb (n:Int):ByteArray:=⟨(Lib.itoa n).toArray⟩
theorem sItoa (n:Int) (w) (h0: -9223372036854775808<=n) (h1:n<=9223372036854775807) (ht:Tabs w):
  Calls Tryz.prog 16 #[.int .i64 n] w λe w'=>e = .returned (.string (itb n))/\Below w.heap.size w w':=by
 refine (show Calls Tryz.prog 16 #[.int .i64 n] w _ from Any.strconv_Itoa Tryz.laysM171 n h0 h1 w ht).mono ?_;rintro e w' ⟨rfl,k,os,rfl⟩;exact ⟨rfl,grow_below w k os⟩
end
section
open Go.RowKit Go.Shelf Go.Sort
theorem sFormatU (n:Int) (w) (h0:0<=n) (h1:n<=18446744073709551615) (ht:Tabs w):
  Calls Tryz.prog 116 #[.int .u64 n,.int .i64 10] w λe w'=>e = .returned (.string (itb n))/\Below w.heap.size w w':=by
 obtain ⟨u,rfl⟩:∃u:Nat,n=u:=⟨n.toNat,by omega⟩;have hE:itb (u:Int)=⟨(Lib.decDigits u).toArray⟩:=by unfold itb;rw [Lib.itoa_nonneg]
 rw [hE];by_cases hs:u<100
 ·have hw:IntKind.i64.wrap (u:Int)=u:=by rw [IntKind.wrap_i64];omega
  go_enter Tryz.func116,Tryz.ntmps116;go_wp2_with (go_at_call 132;refine (show Calls Tryz.prog 132 #[.int .i64 (u:Int)] w _ from Any.internal_strconv_small Tryz.lays283 u hs w).mono ?_;rintro e w' ⟨rfl,rfl⟩);go_ret;exact ⟨rfl,Below.refl _ _⟩
 ·have af:1<=u:=by omega
  have aa:u<18446744073709551616:=by omega
  have am:Lib.nDigits u<=20:=by have:=Lib.numDigits_eq u af aa;split at this <;> omega
  obtain ⟨N,HN⟩:=nmd (Lib.nDigits u);have ag:Tryz.prog.arrayLen 172=24:=by kernel_rfl
  have hsl:∀W,(Instr.sliceAt 172 (.pointer (some ⟨w.heap.size,0,none⟩)) none (some (.int .i64 (N:Int))) none).run Tryz.prog W = .ok (.slice (some ⟨w.heap.size,0,none⟩) N 24) W:=λW=>by
   rw [run_sliceAt_array_h W 172 ⟨w.heap.size,0,none⟩ (by simp [Program.arrayLen,Program.elem,Tryz.underlying172]) .i64 (N:Int) (by omega) (by rw [ag];have:=HN.out;omega)];go_simp
  have ad:=Lib.holds_zero0 w 172 N (by have:=HN.out;omega);have ab:=Any.internal_strconv_formatBase10 Tryz.lays285 w.heap.size 0 24 u (Array.replicate N 0) (w.alloc (.cells Lib.zeros24 172)) ad (by rw [Array.size_replicate,<- HN.out];exact Lib.lt_pow_nDigits u) aa (by rw [Array.size_replicate];have:=HN.out;omega);rw [Array.size_replicate] at ab;have ah:=hid ad;have ae:∀W,Tabs W->Calls Tryz.prog 133 #[.int .u64 (u:Int)] W λe w'=>e = .returned (.int .i64 (N:Int))/\w'=W:=λW hW=>by
   rw [<- HN.out];exact Any.internal_strconv_numDigits Tryz.laysM284 u af aa W hW
  have ai:Tabs (w.alloc (.cells Lib.zeros24 172)):=ht.below ((Below.refl _ _).alloc (Nat.le_refl _) _);have aj:=hid ab;clear ad ag ab;go_enter Tryz.func116,Tryz.ntmps116;go_wp2_with (first | (go_at_call 133;refine (ae _ ai).mono ?_;rintro e w' ⟨rfl,rfl⟩));refine aj.out.mono ?_;rintro e w' ⟨rfl,k,v',dk,rfl,hF⟩;have an:(convert 33 9 (.slice (some ⟨w.heap.size,0,none⟩) N 24)).run Tryz.prog ((putRow (λ(b:UInt8)=>Value.int .u8 (b.toNat:Int)) (w.alloc (.cells Lib.zeros24 172)) w.heap.size 0 dk).drewN k) = .ok (.string ⟨(Lib.decDigits u).toArray⟩) ((putRow (λ(b:UInt8)=>Value.int .u8 (b.toNat:Int)) (w.alloc (.cells Lib.zeros24 172)) w.heap.size 0 dk).drewN k):=by
   have ak:=hF;rw [<- HN.out] at ak;have h:=run_convert_bytes_back (P:=Tryz.prog) ((putRow (λ(b:UInt8)=>Value.int .u8 (b.toNat:Int)) (w.alloc (.cells Lib.zeros24 172)) w.heap.size 0 dk).drewN k) 33 9 5 ⟨w.heap.size,0,none⟩ 24 (Lib.decDigits u) Tryz.underlying33 Tryz.underlying5 Tryz.underlying9 (λj hj=>by
    rw [Lib.row_is_numeral ak j hj,Lib.add_plain,World.cell?_drewN];exact cell?_putRow (λ(b:UInt8)=>Value.int .u8 (b.toNat:Int)) _ w.heap.size 0 _ dk ah.out (by rw [hF.size,Array.size_replicate]) j (by rw [hF.size,<- HN.out];rw [Lib.decDigits_length] at hj;exact hj))
   rw [Lib.decDigits_length,HN.out] at h;exact h
  have al:Below w.heap.size w ((putRow (λ(b:UInt8)=>Value.int .u8 (b.toNat:Int)) (w.alloc (.cells Lib.zeros24 172)) w.heap.size 0 dk).drewN k):=by
   obtain ⟨os,e⟩:=Lib.fin_at w (.cells Lib.zeros24 172) dk k 0;rw [e];exact grow_below w k os
  clear aj ae ai ah;go_wp2;go_ret;exact ⟨rfl,al⟩
theorem sFormatUint (n:Int) (w) (h0:0<=n) (h1:n<=18446744073709551615) (ht:Tabs w):
  Calls Tryz.prog 72 #[.int .u64 n,.int .i64 10] w λe w'=>e = .returned (.string (itb n))/\Below w.heap.size w w':=by
 go_enter Tryz.func72,Tryz.ntmps72;go_wp2_with (go_at_call 116;refine (sFormatU n w h0 h1 ht).mono ?_;rintro e w' ⟨rfl,hb⟩);go_ret;exact ⟨rfl,hb⟩
end
section
open Go.RowKit Go.Shelf
theorem sizeBld:(Tryz.prog.info? 35).map (·.size)=some 2:=by kernel_rfl
theorem infoByteB:(Tryz.prog.info? 5).map (λi=>(i.zero,i.size,i.bytes))=some (some (.int .u8 0),1,1):=by kernel_rfl
theorem neBld:(35:TypeId)≠5:=by decide
def Bld (B b:Nat) (t:ByteArray) (w:World):Prop:=Lib.IsBuilder 35 5 B b (Lib.strCells t) w
theorem bld_at_below {B b:Nat} {p:Value} {bs:List Value} {w:World} {w'} (h:Lib.BuilderAt 35 5 B b p bs w) (hb:Below w.heap.size w w'):Lib.BuilderAt 35 5 B b p bs w':=by
 have aa:=h.lt;obtain ⟨h1,v,h2,h3,h4⟩:=h;exact ⟨h1,v,by rw [hb.block b aa];exact h2,own_below h3 hb,h4⟩
theorem Bld.below {B b t w w'} (h:Bld B b t w) (hb:Below w.heap.size w w'):Bld B b t w':=by
 rcases h with h | h
 ·exact .inl (bld_at_below h hb)
 ·exact .inr (bld_at_below h hb)
theorem Bld.new (w:World):Bld w.heap.size w.heap.size ⟨#[]⟩ (w.alloc (.cells #[.pointer none,.slice none 0 0] 35)):=
 .inl ⟨Nat.le_refl _,.slice none 0 0,heap_alloc_new w _,World.ownsRow_nil _ _ _ _,by simp [Value.ownBlock]⟩
theorem strCells_app (s t:ByteArray):Lib.strCells s++Lib.strCells t=Lib.strCells (s++t):=by
 simp [Lib.strCells,ByteArray.data_append]
theorem sCopyFresh (b:Nat) (w:World) (h0:w.cell? ⟨b,0,none⟩=some (.pointer none)) (hsh:w.shape? b=some (35,2)) (hfz:w.frozen? ⟨b,0,none⟩=false):
  Calls Tryz.prog 19 #[.pointer (some ⟨b,0,none⟩)] w λe w'=>e = .returned (.tuple #[])/\w'=w.setCell ⟨b,0,none⟩ (.pointer (some ⟨b,0,none⟩)):=by
 obtain ⟨j,hj,aa⟩:=Option.map_eq_some_iff.1 sizeBld;go_enter Tryz.func19,Tryz.ntmps19;go_wp2;rw [Lib.run_to_unsafe w ⟨b,0,none⟩ Tryz.underlying32 Tryz.underlying83 hj (by rw [aa];decide) hsh (Nat.zero_lt_succ 1)];simp only [Result.andThen];rw [Oper.upon_value];go_wp2;rw [run_callFunc_extern Tryz.func41 (by kernel_rfl) (by kernel_rfl) (by kernel_rfl) (e:=Extern.AbiNoEscape.same) (by kernel_rfl),Lib.run_noEscape];simp only [Result.andThen];rw [Oper.upon_value];go_wp2;rw [Lib.run_from_unsafe w ⟨b,0,none⟩ Tryz.underlying83 Tryz.underlying32 hj hsh (by kernel_rfl)];simp only [Result.andThen];rw [Oper.upon_value];go_wp2;go_end0;exact ⟨rfl,rfl⟩
theorem sCopyUsed (b:Nat) (w:World) (h0:w.cell? ⟨b,0,none⟩=some (.pointer (some ⟨b,0,none⟩))):
  Calls Tryz.prog 19 #[.pointer (some ⟨b,0,none⟩)] w λe w'=>e = .returned (.tuple #[])/\w'=w:=by
 obtain ⟨j,hj,_⟩:=Option.map_eq_some_iff.1 sizeBld;go_enter Tryz.func19,Tryz.ntmps19;go_wp2;rw [Lib.run_neq_ptr_same w _ Tryz.underlying32 hj];go_wp2;go_end0;exact ⟨rfl,rfl⟩
theorem sCopyCheck (B b:Nat) (bs:List Value) (w:World) (h:Lib.IsBuilder 35 5 B b bs w):
  Calls Tryz.prog 19 #[.pointer (some ⟨b,0,none⟩)] w λe w'=>e = .returned (.tuple #[])/\Lib.BuilderAt 35 5 B b (.pointer (some ⟨b,0,none⟩)) bs w'/\Below B w w':=by
 rcases h with h | h
 ·refine (sCopyFresh b w h.cell0 h.shape h.frozen0).mono ?_;rintro e w' ⟨rfl,rfl⟩;exact ⟨rfl,h.used _,(Below.refl B w).setCell (p:=⟨b,0,none⟩) h.1 _⟩
 ·refine (sCopyUsed b w h.cell0).mono ?_;rintro e w' ⟨rfl,rfl⟩;exact ⟨rfl,h,Below.refl B _⟩
theorem sWrite (B b t) (s:ByteArray) (w) (h:Bld B b t w) (hlen:t.size+s.size<=1000000) (hBw:B<=w.heap.size):
  Calls Tryz.prog 9 #[.pointer (some ⟨b,0,none⟩),.string s] w λe w'=>e = .returned (.tuple #[.int .i64 s.size,.nilIface])/\Bld B b (t++s) w'/\Below B w w':=by
 obtain ⟨i0,hi,ai,aj,ak⟩:=info_parts infoByteB;have an:=Lib.strCells_length t;go_enter Tryz.func9,Tryz.ntmps9;go_wp2_with (go_at_call 19;refine (sCopyCheck B b _ _ h).mono ?_);rintro e w1 ⟨rfl,⟨hB,v,aa,af,al⟩,ah⟩;have ap:=ah.size;have c0:w1.cell? ⟨b,0,none⟩=some (.pointer (some ⟨b,0,none⟩)):=by rw [Lib.cell_of_heap aa];rfl
 have c1:w1.cell? ⟨b,1,none⟩=some v:=by rw [Lib.cell_of_heap aa];rfl
 have am:b<w1.heap.size:=(Array.getElem?_eq_some_iff.1 aa).1;go_wp2_with (at_builtin;refine Lib.wpList_append_own_string _ rfl _ _ 33 9 rfl B 5 i0 Tryz.underlying33 Tryz.underlying9 hi ai aj ak _ _ _ rfl af s rfl (by unfold maxLen;omega) (by omega) (by omega) ?_);intro v' w2 ab ad _;have ae:w2.heap[b]? = some (.cells #[.pointer (some ⟨b,0,none⟩),v] 35 (0,0)):=by
  rw [ad.block b am (λe=>al e.symm)];exact aa
 have d0:w2.cell? ⟨b,0,none⟩=some (.pointer (some ⟨b,0,none⟩)):=by rw [Lib.cell_of_heap ae];rfl
 have d1:w2.cell? ⟨b,1,none⟩=some v:=by rw [Lib.cell_of_heap ae];rfl
 have f1:w2.frozen? ⟨b,1,none⟩=false:=Lib.frozen_of_heap ae 1;obtain ⟨ao,n',ag,rfl⟩:∃ao n' ag,v' = .slice ao n' ag:=by
  rcases ab.2 with ⟨hv,_⟩ | ⟨g,ag,aq,hv,_⟩ <;> exact ⟨_,_,_,hv⟩
 go_wp2;go_ret2;refine ⟨rfl,.inr ?_,(ah.grown ad (by omega) (λk hk=>(af.lt k hk).1)).setCell (p:=⟨b,1,none⟩) hB _⟩
 exact Lib.BuilderAt.put hB ae (bs':=Lib.strCells (t++s)) (by rw [<- strCells_app];simpa [Lib.strCells_length] using ab) neBld
theorem sString (B b t w) (h:Bld B b t w) (hBw:B<=w.heap.size):
  Calls Tryz.prog 11 #[.pointer (some ⟨b,0,none⟩)] w λe w'=>e = .returned (.string t)/\Below B w w':=by
 have h':Lib.IsBuilder 35 5 B b (Lib.byteCells t.data.toList) w:=h;refine (show Calls Tryz.prog 11 #[.pointer (some ⟨b,0,none⟩)] w _ from Any.Builder_String_any Tryz.lays169 Tryz.Builder_Extra_169 B b t.data.toList w h' hBw).mono ?_;rintro e w' ⟨rfl,hb⟩;exact ⟨by simp,hb⟩
end
end Go.Proofs.YtljlioglpaogdacGreatDoor

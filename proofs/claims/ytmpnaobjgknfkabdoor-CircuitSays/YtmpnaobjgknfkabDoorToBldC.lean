/- croftref.CircuitText: plain facts. · strings.Builder: writing, by a walk of its own (copyCheck's refused branch is never met), and String off the shelf; FormatUint by small, numDigits, formatBase10 off the shelf. -/
import Derived.Test.YtmpnaobjgknfkabDoorToDigC
import Derived.Test.YtmpnaobjgknfkabDoorToGRightC
import Derived.Test.YtmpnaobjgknfkabDoorToRefC
import Derived.Test.YtmpnaobjgknfkabDoorToPiecC
import Derived.Lib.ItoaLen
import Derived.Test.YtmpnaobjgknfkabDoorToShLay
import Derived.Test.YtmpnaobjgknfkabDoorToMath
import Derived.Shelf.Strings.Builder1
namespace Go.Proofs.YtmpnaobjgknfkabDoor
open Go.RowKit Crm

theorem itb_size (n : Int) (h0 : -9223372036854775808 ≤ n) (h1 : n ≤ 9223372036854775807) : (itb n).size ≤ 21 := by
  have := Lib.itoa_length_le n h0 h1
  have e : (itb n).size = (Lib.itoa n).length := by simp [itb, ByteArray.size]
  omega
theorem add_run {P : Program} (x y : ByteArray) (h : x.size + y.size ≤ 1000000) (w : World) : (Op.stringOp .add x y).run P w = .ok (.string (x ++ y)) w := by
  rw [run_string_add_if, if_neg (by omega)]
/-- The verbs. -/
def vbs : List ByteArray := [⟨#[]⟩, ⟨#[105, 110, 112, 117, 116]⟩, ⟨#[99, 111, 110, 115, 116]⟩, ⟨#[97, 100, 100]⟩, ⟨#[115, 117, 98]⟩, ⟨#[109, 117, 108]⟩, ⟨#[115, 99, 97, 108, 101]⟩]
def vb (k : Nat) : ByteArray := vbs.getD k mt
def Vb (w : World) : Prop := ∀ i, i < 7 → w.cell? ⟨0, i, none⟩ = some (.string (vb i))
theorem Vb.below {w w' : World} (h : Vb w) (hb : Below w.heap.size w w') : Vb w' := fun i hi => by
  rw [hb.cell (World.block_lt_of_cell? w _ (h i hi))]
  exact h i hi
theorem vb_size (k : Nat) (hk : k < 7) : (vb k).size ≤ 5 := by
  have : k = 0 ∨ k = 1 ∨ k = 2 ∨ k = 3 ∨ k = 4 ∨ k = 5 ∨ k = 6 := by omega
  rcases this with rfl | rfl | rfl | rfl | rfl | rfl | rfl <;> decide
/-- What stands behind the verb. -/
def arg (g : Gt) : ByteArray :=
  if g.k = 1 then ⟨#[32]⟩ ++ itb g.a else if g.k = 2 then ⟨#[32]⟩ ++ itb (nm g.n) else if g.k = 6 then ⟨#[32]⟩ ++ itb g.a ++ ⟨#[32]⟩ ++ itb (nm g.n) else ⟨#[32]⟩ ++ itb g.a ++ ⟨#[32]⟩ ++ itb g.b
/-- A text, and a gate's line behind it. -/
def gln (t : ByteArray) (g : Gt) : ByteArray := t ++ vb g.k.toNat ++ arg g ++ ⟨#[10]⟩
/-- The lines of the first k gates. -/
def gtx (G : List Gt) : Nat → ByteArray
  | 0 => ⟨#[]⟩
  | k + 1 => gln (gtx G k) (gt G k)
/-- The lines of the first j outs behind a text. -/
def otx (t : ByteArray) (O : List Int) : Nat → ByteArray
  | 0 => t
  | j + 1 => otx t O j ++ (⟨#[111, 117, 116, 32]⟩ ++ itb (O.getD j 0) ++ ⟨#[10]⟩)
theorem sp_size : (⟨#[32]⟩ : ByteArray).size = 1 := rfl
theorem nl_size : (⟨#[10]⟩ : ByteArray).size = 1 := rfl
theorem out_size : (⟨#[111, 117, 116, 32]⟩ : ByteArray).size = 4 := rfl
theorem arg_size {i : Nat} {g : Gt} (h : okg i g) (hi : i ≤ 30) : (arg g).size ≤ 44 := by
  have hn := nm_bd g.n
  have h2 := itb_size (nm g.n) (by omega) (by omega)
  have sp := sp_size
  unfold arg
  rcases h with ⟨h1, h3, _, _⟩ | ⟨h1, _, _⟩ | ⟨h1, h3, _⟩ | ⟨h1, h3, h4, _⟩
  · have := itb_size g.a (by omega) (by omega)
    rw [if_pos h1, ByteArray.size_append]; omega
  · rw [if_neg (by omega), if_pos h1, ByteArray.size_append]; omega
  · have := itb_size g.a (by omega) (by omega)
    rw [if_neg (by omega), if_neg (by omega), if_pos h1, ByteArray.size_append, ByteArray.size_append, ByteArray.size_append]; omega
  · have := itb_size g.a (by omega) (by omega)
    have := itb_size g.b (by omega) (by omega)
    rw [if_neg (by omega), if_neg (by omega), if_neg (by omega), ByteArray.size_append, ByteArray.size_append, ByteArray.size_append]; omega
theorem gtx_size {G : List Gt} {n : Nat} (h : okG G n) (hn : n ≤ 30) : ∀ k, k ≤ n → (gtx G k).size ≤ 50 * k
  | 0, _ => Nat.le_refl 0
  | k + 1, hk => by
    have ih := gtx_size h hn k (by omega)
    have ho := h k (by omega)
    have h1 := arg_size ho (by omega)
    have h2 : (gt G k).k.toNat < 7 := by
      unfold okg at ho
      omega
    have h3 := vb_size _ h2
    have nl := nl_size
    rw [gtx, gln, ByteArray.size_append, ByteArray.size_append, ByteArray.size_append]
    omega
theorem otx_size {t : ByteArray} {O : List Int} {n m : Nat} (h : okO O n m) (hn : n ≤ 30) : ∀ k, k ≤ m → (otx t O k).size ≤ t.size + 30 * k
  | 0, _ => Nat.le_refl _
  | k + 1, hk => by
    have ih := otx_size (t := t) h hn k (by omega)
    have ho := h k (by omega)
    have h1 := itb_size (O.getD k 0) (by omega) (by omega)
    have nl := nl_size
    have ou := out_size
    rw [otx, ByteArray.size_append, ByteArray.size_append, ByteArray.size_append]
    omega
end Go.Proofs.YtmpnaobjgknfkabDoor

namespace Go.Proofs.YtmpnaobjgknfkabDoor
open Go.RowKit Go.Shelf

theorem sizeBld : (Tryd.prog.info? 54).map (·.size) = some 2 := by kernel_rfl
theorem infoByteB : (Tryd.prog.info? 5).map (fun i => (i.zero, i.size, i.bytes)) = some (some (.int .u8 0), 1, 1) := by kernel_rfl
theorem neBld : (54 : TypeId) ≠ 5 := by decide
/-- A builder that holds the text t. -/
def Bld (B b : Nat) (t : ByteArray) (w : World) : Prop := Lib.IsBuilder 54 5 B b (Lib.strCells t) w

theorem bld_at_below {B b : Nat} {p : Value} {bs : List Value} {w w' : World} (h : Lib.BuilderAt 54 5 B b p bs w) (hb : Below w.heap.size w w') : Lib.BuilderAt 54 5 B b p bs w' := by
  have hlt := h.lt
  obtain ⟨h1, v, h2, h3, h4⟩ := h
  exact ⟨h1, v, by rw [hb.block b hlt]; exact h2, own_below h3 hb, h4⟩
theorem Bld.below {B b : Nat} {t : ByteArray} {w w' : World} (h : Bld B b t w) (hb : Below w.heap.size w w') : Bld B b t w' := by
  rcases h with h | h
  · exact .inl (bld_at_below h hb)
  · exact .inr (bld_at_below h hb)
theorem Bld.lt {B b : Nat} {t : ByteArray} {w : World} (h : Bld B b t w) : b < w.heap.size := by
  rcases h with h | h <;> exact h.lt
theorem Bld.new (w : World) : Bld w.heap.size w.heap.size ⟨#[]⟩ (w.alloc (.cells #[.pointer none, .slice none 0 0] 54)) :=
  .inl ⟨Nat.le_refl _, .slice none 0 0, heap_alloc_new w _, World.ownsRow_nil _ _ _ _, by simp [Value.ownBlock]⟩
theorem strCells_app (s t : ByteArray) : Lib.strCells s ++ Lib.strCells t = Lib.strCells (s ++ t) := by
  simp [Lib.strCells, ByteArray.data_append]

set_option maxRecDepth 100000 in
set_option maxHeartbeats 1000000 in
theorem sCopyFresh (b : Nat) (w : World) (h0 : w.cell? ⟨b, 0, none⟩ = some (.pointer none)) (hsh : w.shape? b = some (54, 2)) (hfz : w.frozen? ⟨b, 0, none⟩ = false) :
    Calls Tryd.prog 32 #[.pointer (some ⟨b, 0, none⟩)] w fun e w' => e = .returned (.tuple #[]) ∧ w' = w.setCell ⟨b, 0, none⟩ (.pointer (some ⟨b, 0, none⟩)) := by
  obtain ⟨j, hj, hjs⟩ := Option.map_eq_some_iff.1 sizeBld
  go_enter Tryd.func32, Tryd.ntmps32
  go_wp2
  rw [Lib.run_to_unsafe w ⟨b, 0, none⟩ Tryd.underlying51 Tryd.underlying70 hj (by rw [hjs]; decide) hsh (Nat.zero_lt_succ 1)]
  simp only [Result.andThen]
  rw [Oper.upon_value]
  go_wp2
  rw [run_callFunc_extern Tryd.func35 (by kernel_rfl) (by kernel_rfl) (by kernel_rfl) (e := Extern.AbiNoEscape.same) (by kernel_rfl), Lib.run_noEscape]
  simp only [Result.andThen]
  rw [Oper.upon_value]
  go_wp2
  rw [Lib.run_from_unsafe w ⟨b, 0, none⟩ Tryd.underlying70 Tryd.underlying51 hj hsh (by kernel_rfl)]
  simp only [Result.andThen]
  rw [Oper.upon_value]
  go_wp2
  go_end0
  exact ⟨rfl, rfl⟩
set_option maxRecDepth 100000 in
set_option maxHeartbeats 1000000 in
theorem sCopyUsed (b : Nat) (w : World) (h0 : w.cell? ⟨b, 0, none⟩ = some (.pointer (some ⟨b, 0, none⟩))) :
    Calls Tryd.prog 32 #[.pointer (some ⟨b, 0, none⟩)] w fun e w' => e = .returned (.tuple #[]) ∧ w' = w := by
  obtain ⟨j, hj, _⟩ := Option.map_eq_some_iff.1 sizeBld
  go_enter Tryd.func32, Tryd.ntmps32
  go_wp2
  rw [Lib.run_neq_ptr_same w _ Tryd.underlying51 hj]
  go_wp2
  go_end0
  exact ⟨rfl, rfl⟩
theorem sCopyCheck (B b : Nat) (bs : List Value) (w : World) (h : Lib.IsBuilder 54 5 B b bs w) :
    Calls Tryd.prog 32 #[.pointer (some ⟨b, 0, none⟩)] w fun e w' => e = .returned (.tuple #[]) ∧ Lib.BuilderAt 54 5 B b (.pointer (some ⟨b, 0, none⟩)) bs w' ∧ Below B w w' := by
  rcases h with h | h
  · refine (sCopyFresh b w h.cell0 h.shape h.frozen0).mono ?_
    rintro e w' ⟨rfl, rfl⟩
    exact ⟨rfl, h.used _, (Below.refl B w).setCell (p := ⟨b, 0, none⟩) h.1 _⟩
  · refine (sCopyUsed b w h.cell0).mono ?_
    rintro e w' ⟨rfl, rfl⟩
    exact ⟨rfl, h, Below.refl B _⟩

set_option maxRecDepth 100000 in
set_option maxHeartbeats 2000000 in
/-- A text is written behind what was written. -/
theorem sWrite (B b : Nat) (t s : ByteArray) (w : World) (h : Bld B b t w) (hlen : t.size + s.size ≤ 1000000) (hBw : B ≤ w.heap.size) :
    Calls Tryd.prog 19 #[.pointer (some ⟨b, 0, none⟩), .string s] w fun e w' => e = .returned (.tuple #[.int .i64 s.size, .nilIface]) ∧ Bld B b (t ++ s) w' ∧ Below B w w' := by
  obtain ⟨i0, hi, hz0, hz1, hz2⟩ := info_parts infoByteB
  have hcl := Lib.strCells_length t
  go_enter Tryd.func19, Tryd.ntmps19
  go_wp2_with (go_at_call 32; refine (sCopyCheck B b _ _ h).mono ?_)
  rintro e w1 ⟨rfl, ⟨hB, v, hbk, hown, hne⟩, hb1⟩
  have hs1 := hb1.size
  have c0 : w1.cell? ⟨b, 0, none⟩ = some (.pointer (some ⟨b, 0, none⟩)) := by rw [Lib.cell_of_heap hbk]; rfl
  have c1 : w1.cell? ⟨b, 1, none⟩ = some v := by rw [Lib.cell_of_heap hbk]; rfl
  have hlt : b < w1.heap.size := (Array.getElem?_eq_some_iff.1 hbk).1
  go_wp2_with (at_builtin; refine Lib.wpList_append_own_string _ rfl _ _ 52 9 rfl B 5 i0 Tryd.underlying52 Tryd.underlying9 hi hz0 hz1 hz2 _ _ _ rfl hown s rfl (by unfold maxLen; omega) (by omega) (by omega) ?_)
  intro v' w2 hown' hgrow _
  have hb2 : w2.heap[b]? = some (.cells #[.pointer (some ⟨b, 0, none⟩), v] 54 (0, 0)) := by
    rw [hgrow.block b hlt (fun e => hne e.symm)]
    exact hbk
  have d0 : w2.cell? ⟨b, 0, none⟩ = some (.pointer (some ⟨b, 0, none⟩)) := by rw [Lib.cell_of_heap hb2]; rfl
  have d1 : w2.cell? ⟨b, 1, none⟩ = some v := by rw [Lib.cell_of_heap hb2]; rfl
  have f1 : w2.frozen? ⟨b, 1, none⟩ = false := Lib.frozen_of_heap hb2 1
  obtain ⟨ao, n', cap, rfl⟩ : ∃ ao n' cap, v' = .slice ao n' cap := by
    rcases hown'.2 with ⟨hv, _⟩ | ⟨g, cap, cur, hv, _⟩ <;> exact ⟨_, _, _, hv⟩
  go_wp2
  go_ret2
  refine ⟨rfl, .inr ?_, (hb1.grown hgrow (by omega) (fun k hk => (hown.lt k hk).1)).setCell (p := ⟨b, 1, none⟩) hB _⟩
  exact Lib.BuilderAt.put hB hb2 (bs' := Lib.strCells (t ++ s)) (by rw [← strCells_app]; simpa [Lib.strCells_length] using hown') neBld
/-- What was written. -/
theorem sString (B b : Nat) (t : ByteArray) (w : World) (h : Bld B b t w) (hBw : B ≤ w.heap.size) :
    Calls Tryd.prog 21 #[.pointer (some ⟨b, 0, none⟩)] w fun e w' => e = .returned (.string t) ∧ Below B w w' := by
  have h' : Lib.IsBuilder 54 5 B b (Lib.byteCells t.data.toList) w := h
  refine (show Calls Tryd.prog 21 #[.pointer (some ⟨b, 0, none⟩)] w _ from Any.Builder_String_any Tryd.lays169 Tryd.Builder_Extra_169 B b t.data.toList w h' hBw).mono ?_
  rintro e w' ⟨rfl, hb⟩
  exact ⟨by simp, hb⟩
end Go.Proofs.YtmpnaobjgknfkabDoor

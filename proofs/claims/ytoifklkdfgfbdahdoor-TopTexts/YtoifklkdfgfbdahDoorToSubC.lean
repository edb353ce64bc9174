/- strconv.Itoa, off the shelf. · croftref.CircuitText: plain facts. · A piece of a slice: x[l:h]. -/
import Derived.Test.YtoifklkdfgfbdahDoorToShLay
import Derived.Test.YtoifklkdfgfbdahDoorToRefA
import Derived.Shelf.Strconv.Itoa3
import Derived.Lib.ItoaLen
import Derived.Test.YtoifklkdfgfbdahDoorToPolyM
namespace Go.Proofs.YtoifklkdfgfbdahDoor
open Go.RowKit Go.Shelf

/-- The table that Itoa reads. -/
def Tabs (w : World) : Prop := Lib.TabIs Tryd.prog w "internal/strconv.uint64pow10" .u64 Lib.pow10Tab
theorem Tabs.below {w w' : World} (h : Tabs w) (hb : Below w.heap.size w w') : Tabs w' := by
  unfold Tabs Lib.TabIs World.var? at h ⊢
  cases hg : Tryd.prog.globalNamed "internal/strconv.uint64pow10" with
  | none => rw [hg] at h; cases h
  | some g =>
    rw [hg] at h
    simp only [Option.bind_some] at h ⊢
    by_cases hl : g < w.heap.size
    · rw [hb.block g hl]
      exact h
    · rw [Array.getElem?_eq_none (by omega)] at h
      cases h
theorem grow_below (w : World) (k : Nat) (os : Array Obj) : Below w.heap.size w (Go.Sort.grow (w.drewN k) os) := by
  have hb := drewN_below (Below.refl w.heap.size w) k
  refine ⟨hb.os, hb.tape, hb.output, ?_, fun i hi => ?_⟩
  · have : (Go.Sort.grow (w.drewN k) os).heap = (w.drewN k).heap ++ os := rfl
    have := hb.size
    simp only [*, Array.size_append]
    omega
  · have e : (Go.Sort.grow (w.drewN k) os).heap = (w.drewN k).heap ++ os := rfl
    have := hb.size
    rw [e, Array.getElem?_append_left (by omega)]
    exact hb.block i hi
/-- A number as text. -/
def itb (n : Int) : ByteArray := ⟨(Lib.itoa n).toArray⟩
theorem sItoa (n : Int) (w : World) (h0 : -9223372036854775808 ≤ n) (h1 : n ≤ 9223372036854775807) (ht : Tabs w) :
    Calls Tryd.prog 18 #[.int .i64 n] w fun e w' => e = .returned (.string (itb n)) ∧ Below w.heap.size w w' := by
  refine (show Calls Tryd.prog 18 #[.int .i64 n] w _ from Any.strconv_Itoa Tryd.laysM171 n h0 h1 w ht).mono ?_
  rintro e w' ⟨rfl, k, os, rfl⟩
  exact ⟨rfl, grow_below w k os⟩
end Go.Proofs.YtoifklkdfgfbdahDoor

namespace Go.Proofs.YtoifklkdfgfbdahDoor
open Go.RowKit Crm

theorem itb_size (n : Int) (h0 : -9223372036854775808 ≤ n) (h1 : n ≤ 9223372036854775807) : (itb n).size ≤ 21 := by
  have := Lib.itoa_length_le n h0 h1
  have e : (itb n).size = (Lib.itoa n).length := by simp [itb, ByteArray.size]
  omega
theorem add_run {P : Program} (x y : ByteArray) (h : x.size + y.size ≤ 1000000) (w : World) : (Op.stringOp .add x y).run P w = .ok (.string (x ++ y)) w := by
  rw [run_string_add_if, if_neg (by omega)]
/-- The verbs. -/
def vbs : List ByteArray := [⟨#[]⟩, ⟨#[105, 110, 112, 117, 116]⟩, ⟨#[99, 111, 110, 115, 116]⟩, ⟨#[97, 100, 100]⟩, ⟨#[115, 117, 98]⟩, ⟨#[109, 117, 108]⟩, ⟨#[115, 99, 97, 108, 101]⟩]
def vb (k : Nat) : ByteArray := vbs.getD k mt
theorem vb_size (k : Nat) (hk : k < 7) : (vb k).size ≤ 5 := by
  have : k = 0 ∨ k = 1 ∨ k = 2 ∨ k = 3 ∨ k = 4 ∨ k = 5 ∨ k = 6 := by omega
  rcases this with rfl | rfl | rfl | rfl | rfl | rfl | rfl <;> decide
/-- What stands behind the verb. -/
def arg (g : Gt) : ByteArray :=
  if g.k = 1 then ⟨#[32]⟩ ++ itb g.a else if g.k = 2 then ⟨#[32]⟩ ++ itb (nm g.n) else if g.k = 6 then ⟨#[32]⟩ ++ itb g.a ++ ⟨#[32]⟩ ++ itb (nm g.n) else ⟨#[32]⟩ ++ itb g.a ++ ⟨#[32]⟩ ++ itb g.b
/-- A text, and a gate's line behind it. -/
def gln (t : ByteArray) (g : Gt) : ByteArray := t ++ vb g.k.toNat ++ arg g ++ ⟨#[10]⟩
/-- The lines of the first k gates. -/
def gtx (G : List Gt) : Nat → ByteArray
  | 0 => ⟨#[]⟩
  | k + 1 => gln (gtx G k) (gt G k)
/-- The lines of the first j outs behind a text. -/
def otx (t : ByteArray) (O : List Int) : Nat → ByteArray
  | 0 => t
  | j + 1 => otx t O j ++ (⟨#[111, 117, 116, 32]⟩ ++ itb (O.getD j 0) ++ ⟨#[10]⟩)
theorem sp_size : (⟨#[32]⟩ : ByteArray).size = 1 := rfl
theorem nl_size : (⟨#[10]⟩ : ByteArray).size = 1 := rfl
theorem out_size : (⟨#[111, 117, 116, 32]⟩ : ByteArray).size = 4 := rfl
theorem arg_size {i : Nat} {g : Gt} (h : okg i g) (hi : i ≤ 30) : (arg g).size ≤ 44 := by
  have hn := nm_bd g.n
  have h2 := itb_size (nm g.n) (by omega) (by omega)
  have sp := sp_size
  unfold arg
  rcases h with ⟨h1, h3, _, _⟩ | ⟨h1, _, _⟩ | ⟨h1, h3, _⟩ | ⟨h1, h3, h4, _⟩
  · have := itb_size g.a (by omega) (by omega)
    rw [if_pos h1, ByteArray.size_append]; omega
  · rw [if_neg (by omega), if_pos h1, ByteArray.size_append]; omega
  · have := itb_size g.a (by omega) (by omega)
    rw [if_neg (by omega), if_neg (by omega), if_pos h1, ByteArray.size_append, ByteArray.size_append, ByteArray.size_append]; omega
  · have := itb_size g.a (by omega) (by omega)
    have := itb_size g.b (by omega) (by omega)
    rw [if_neg (by omega), if_neg (by omega), if_neg (by omega), ByteArray.size_append, ByteArray.size_append, ByteArray.size_append]; omega
theorem gtx_size {G : List Gt} {n : Nat} (h : okG G n) (hn : n ≤ 30) : ∀ k, k ≤ n → (gtx G k).size ≤ 50 * k
  | 0, _ => Nat.le_refl 0
  | k + 1, hk => by
    have ih := gtx_size h hn k (by omega)
    have ho := h k (by omega)
    have h1 := arg_size ho (by omega)
    have h2 : (gt G k).k.toNat < 7 := by
      unfold okg at ho
      omega
    have h3 := vb_size _ h2
    have nl := nl_size
    rw [gtx, gln, ByteArray.size_append, ByteArray.size_append, ByteArray.size_append]
    omega
theorem otx_size {t : ByteArray} {O : List Int} {n m : Nat} (h : okO O n m) (hn : n ≤ 30) : ∀ k, k ≤ m → (otx t O k).size ≤ t.size + 30 * k
  | 0, _ => Nat.le_refl _
  | k + 1, hk => by
    have ih := otx_size (t := t) h hn k (by omega)
    have ho := h k (by omega)
    have h1 := itb_size (O.getD k 0) (by omega) (by omega)
    have nl := nl_size
    have ou := out_size
    rw [otx, ByteArray.size_append, ByteArray.size_append, ByteArray.size_append]
    omega
end Go.Proofs.YtoifklkdfgfbdahDoor

namespace Go.Proofs.YtoifklkdfgfbdahDoor
open Go.RowKit

/-- Where a piece lies. -/
def subA (a : Option Addr) (c lo : Nat) : Option Addr := if c = lo then a else a.map (·.add lo)
theorem Rd.sub {w : World} {a : Option Addr} {n c : Nat} {xs : List Int} (h : Rd w a n c xs) {lo k : Nat} (hk : lo + k ≤ n) : Rd w (subA a c lo) k (c - lo) ((xs.drop lo).take k) := by
  have hl := h.len
  have hc := h.cap
  have hm := h.max
  refine ⟨by simp; omega, by omega, by omega, fun x hx => h.bd x (List.mem_of_mem_drop (List.mem_of_mem_take hx)), fun e => ?_, fun x hx i hi => ?_⟩
  · unfold subA at e
    split at e
    · omega
    · cases a with
      | none => have := h.nil rfl; omega
      | some y => simp at e
  · obtain ⟨b, o, rfl, _, hcell⟩ := h.at (k := lo + i) (by omega)
    unfold subA at hx
    rw [if_neg (by omega), Option.map_some] at hx
    obtain rfl := Option.some.inj hx
    rw [Addr.add_lit, Addr.add_lit, Nat.add_assoc, hcell (lo + i) (by omega)]
    congr 2
    simp [hi]
/-- .. as a walk meets it. -/
theorem run_sub {P : Program} {T E : TypeId} (hT : P.underlying T = some (.slice E)) (hE : (P.info? E).map (·.size) = some 1) (a : Option Addr) (n c lo k : Nat) {l h : Int} (hl : l = (lo : Int)) (hh : h = (lo : Int) + (k : Int)) (hc : lo + k ≤ c) (W : World) :
    (Instr.sliceAt T (.slice a n c) (some (.int .i64 l)) (some (.int .i64 h)) none).run P W = .ok (.slice (subA a c lo) k (c - lo)) W := by
  subst hl hh
  have he : P.elem T = E := by simp [Program.elem, hT]
  have hT' : P.underlying T = some (.slice (P.elem T)) := by rw [he]; exact hT
  have e1 : ((lo : Int) + (k : Int)).toNat = lo + k := by omega
  cases hi : P.info? E with
  | none => simp [hi] at hE
  | some i =>
    have hs : i.size = 1 := by simpa [hi] using hE
    rw [run_sliceAt_slice W T _ _ _ _ hT', run_slice_lh W T a n c hT' .i64 .i64 (lo : Int) ((lo : Int) + (k : Int)) (by omega) (by omega) (by omega), he, e1]
    simp [sizeOf, typeInfo, hi, hs, sliced, subA, Result.andThen]
theorem run_subl {P : Program} {T E : TypeId} (hT : P.underlying T = some (.slice E)) (hE : (P.info? E).map (·.size) = some 1) (a : Option Addr) (n c lo : Nat) {l : Int} (hl : l = (lo : Int)) (hn : lo ≤ n) (W : World) :
    (Instr.sliceAt T (.slice a n c) (some (.int .i64 l)) none none).run P W = .ok (.slice (subA a c lo) (n - lo) (c - lo)) W := by
  subst hl
  have he : P.elem T = E := by simp [Program.elem, hT]
  have hT' : P.underlying T = some (.slice (P.elem T)) := by rw [he]; exact hT
  cases hi : P.info? E with
  | none => simp [hi] at hE
  | some i =>
    have hs : i.size = 1 := by simpa [hi] using hE
    rw [run_sliceAt_slice W T _ _ _ _ hT', run_slice_l W T a n c hT' .i64 (lo : Int) (by omega) (by omega), he]
    simp [sizeOf, typeInfo, hi, hs, sliced, subA, Result.andThen]
end Go.Proofs.YtoifklkdfgfbdahDoor

/- strconv.Itoa, off the shelf. · croftref.CircuitText: plain facts. · A piece of a slice: x[l:h]. · Texts that are compared; slices.Index of texts; pieces of slices of texts. · Package circuit: kindOf, count. · Package circuit: isAhead, gateRight. -/
import Derived.Test.YtljlioglpaogdahDoorShLay
import Derived.Test.YtljlioglpaogdahDoorToWhoseC
import Derived.Shelf.Strconv.Itoa3
import Derived.Test.YtljlioglpaogdahDoorMath
import Derived.Test.YtljlioglpaogdahDoorToNumbC
import Derived.Lib.ItoaLen
import Derived.Test.YtljlioglpaogdahDoorProg
import Derived.WalkKit
import Derived.WalkSpells
import Derived.WalkLawsBesides
import Derived.Test.YtljlioglpaogdahDoorSlice
import Derived.BigQuiet
import Derived.Deep.RegionWith
import Derived.Deep.DeepCutAuto
namespace Go.Proofs.YtljlioglpaogdahDoor
set_option linter.unusedVariables false
set_option maxRecDepth 100000
set_option maxHeartbeats 8000000
section
open Go.RowKit Go.Shelf
/-- The table that Itoa reads. -/
def Tabs (w : World) : Prop := Lib.TabIs Tryd.prog w "internal/strconv.uint64pow10" .u64 Lib.pow10Tab
theorem Tabs.below {w w' : World} (h : Tabs w) (hb : Below w.heap.size w w') : Tabs w' := by
  unfold Tabs Lib.TabIs World.var? at h ⊢
  cases hg : Tryd.prog.globalNamed "internal/strconv.uint64pow10" with
  | none => rw [hg] at h; cases h
  | some g =>
    rw [hg] at h
    simp only [Option.bind_some] at h ⊢
    by_cases hl : g < w.heap.size
    · rw [hb.block g hl]
      exact h
    · rw [Array.getElem?_eq_none (by omega)] at h
      cases h
theorem grow_below (w : World) (k : Nat) (os : Array Obj) : Below w.heap.size w (Go.Sort.grow (w.drewN k) os) := by
  have hb := drewN_below (Below.refl w.heap.size w) k
  refine ⟨hb.os, hb.tape, hb.output, ?_, fun i hi => ?_⟩
  · have : (Go.Sort.grow (w.drewN k) os).heap = (w.drewN k).heap ++ os := rfl
    have := hb.size
    simp only [*, Array.size_append]
    omega
  · have e : (Go.Sort.grow (w.drewN k) os).heap = (w.drewN k).heap ++ os := rfl
    have := hb.size
    rw [e, Array.getElem?_append_left (by omega)]
    exact hb.block i hi
/-- A number as text. -/
def itb (n : Int) : ByteArray := ⟨(Lib.itoa n).toArray⟩
theorem sItoa (n : Int) (w : World) (h0 : -9223372036854775808 ≤ n) (h1 : n ≤ 9223372036854775807) (ht : Tabs w) :
    Calls Tryd.prog 18 #[.int .i64 n] w fun e w' => e = .returned (.string (itb n)) ∧ Below w.heap.size w w' := by
  refine (show Calls Tryd.prog 18 #[.int .i64 n] w _ from Any.strconv_Itoa Tryd.laysM171 n h0 h1 w ht).mono ?_
  rintro e w' ⟨rfl, k, os, rfl⟩
  exact ⟨rfl, grow_below w k os⟩
end
section
open Crm Go.RowKit
theorem itb_size (n : Int) (h0 : -9223372036854775808 ≤ n) (h1 : n ≤ 9223372036854775807) : (itb n).size ≤ 21 := by
  have := Lib.itoa_length_le n h0 h1
  have e : (itb n).size = (Lib.itoa n).length := by simp [itb, ByteArray.size]
  omega
theorem add_run {P : Program} (x y : ByteArray) (h : x.size + y.size ≤ 1000000) (w : World) : (Op.stringOp .add x y).run P w = .ok (.string (x ++ y)) w := by
  rw [run_string_add_if, if_neg (by omega)]
/-- The verbs. -/
def vbs : List ByteArray := [⟨#[]⟩, ⟨#[105, 110, 112, 117, 116]⟩, ⟨#[99, 111, 110, 115, 116]⟩, ⟨#[97, 100, 100]⟩, ⟨#[115, 117, 98]⟩, ⟨#[109, 117, 108]⟩, ⟨#[115, 99, 97, 108, 101]⟩]
def vb (k : Nat) : ByteArray := vbs.getD k mt
theorem vb_size (k : Nat) (hk : k < 7) : (vb k).size ≤ 5 := by
  have : k = 0 ∨ k = 1 ∨ k = 2 ∨ k = 3 ∨ k = 4 ∨ k = 5 ∨ k = 6 := by omega
  rcases this with rfl | rfl | rfl | rfl | rfl | rfl | rfl <;> decide
/-- What stands behind the verb. -/
def arg (g : Gt) : ByteArray :=
  if g.k = 1 then ⟨#[32]⟩ ++ itb g.a else if g.k = 2 then ⟨#[32]⟩ ++ itb (nm g.n) else if g.k = 6 then ⟨#[32]⟩ ++ itb g.a ++ ⟨#[32]⟩ ++ itb (nm g.n) else ⟨#[32]⟩ ++ itb g.a ++ ⟨#[32]⟩ ++ itb g.b
/-- A text, and a gate's line behind it. -/
def gln (t : ByteArray) (g : Gt) : ByteArray := t ++ vb g.k.toNat ++ arg g ++ ⟨#[10]⟩
/-- The lines of the first k gates. -/
def gtx (G : List Gt) : Nat → ByteArray
  | 0 => ⟨#[]⟩
  | k + 1 => gln (gtx G k) (gt G k)
/-- The lines of the first j outs behind a text. -/
def otx (t : ByteArray) (O : List Int) : Nat → ByteArray
  | 0 => t
  | j + 1 => otx t O j ++ (⟨#[111, 117, 116, 32]⟩ ++ itb (O.getD j 0) ++ ⟨#[10]⟩)
theorem sp_size : (⟨#[32]⟩ : ByteArray).size = 1 := rfl
theorem nl_size : (⟨#[10]⟩ : ByteArray).size = 1 := rfl
theorem out_size : (⟨#[111, 117, 116, 32]⟩ : ByteArray).size = 4 := rfl
theorem arg_size {i : Nat} {g : Gt} (h : okg i g) (hi : i ≤ 30) : (arg g).size ≤ 44 := by
  have hn := nm_bd g.n
  have h2 := itb_size (nm g.n) (by omega) (by omega)
  have sp := sp_size
  unfold arg
  rcases h with ⟨h1, h3, _, _⟩ | ⟨h1, _, _⟩ | ⟨h1, h3, _⟩ | ⟨h1, h3, h4, _⟩
  · have := itb_size g.a (by omega) (by omega)
    rw [if_pos h1, ByteArray.size_append]; omega
  · rw [if_neg (by omega), if_pos h1, ByteArray.size_append]; omega
  · have := itb_size g.a (by omega) (by omega)
    rw [if_neg (by omega), if_neg (by omega), if_pos h1, ByteArray.size_append, ByteArray.size_append, ByteArray.size_append]; omega
  · have := itb_size g.a (by omega) (by omega)
    have := itb_size g.b (by omega) (by omega)
    rw [if_neg (by omega), if_neg (by omega), if_neg (by omega), ByteArray.size_append, ByteArray.size_append, ByteArray.size_append]; omega
theorem gtx_size {G : List Gt} {n : Nat} (h : okG G n) (hn : n ≤ 30) : ∀ k, k ≤ n → (gtx G k).size ≤ 50 * k
  | 0, _ => Nat.le_refl 0
  | k + 1, hk => by
    have ih := gtx_size h hn k (by omega)
    have ho := h k (by omega)
    have h1 := arg_size ho (by omega)
    have h2 : (gt G k).k.toNat < 7 := by
      unfold okg at ho
      omega
    have h3 := vb_size _ h2
    have nl := nl_size
    rw [gtx, gln, ByteArray.size_append, ByteArray.size_append, ByteArray.size_append]
    omega
theorem otx_size {t : ByteArray} {O : List Int} {n m : Nat} (h : okO O n m) (hn : n ≤ 30) : ∀ k, k ≤ m → (otx t O k).size ≤ t.size + 30 * k
  | 0, _ => Nat.le_refl _
  | k + 1, hk => by
    have ih := otx_size (t := t) h hn k (by omega)
    have ho := h k (by omega)
    have h1 := itb_size (O.getD k 0) (by omega) (by omega)
    have nl := nl_size
    have ou := out_size
    rw [otx, ByteArray.size_append, ByteArray.size_append, ByteArray.size_append]
    omega
end
section
open Go.RowKit
/-- Where a piece lies. -/
def subA (a : Option Addr) (c lo : Nat) : Option Addr := if c = lo then a else a.map (·.add lo)
theorem Rd.sub {w : World} {a : Option Addr} {n c : Nat} {xs : List Int} (h : Rd w a n c xs) {lo k : Nat} (hk : lo + k ≤ n) : Rd w (subA a c lo) k (c - lo) ((xs.drop lo).take k) := by
  have hl := h.len
  have hc := h.cap
  have hm := h.max
  refine ⟨by simp; omega, by omega, by omega, fun x hx => h.bd x (List.mem_of_mem_drop (List.mem_of_mem_take hx)), fun e => ?_, fun x hx i hi => ?_⟩
  · unfold subA at e
    split at e
    · omega
    · cases a with
      | none => have := h.nil rfl; omega
      | some y => simp at e
  · obtain ⟨b, o, rfl, _, hcell⟩ := h.at (k := lo + i) (by omega)
    unfold subA at hx
    rw [if_neg (by omega), Option.map_some] at hx
    obtain rfl := Option.some.inj hx
    rw [Addr.add_lit, Addr.add_lit, Nat.add_assoc, hcell (lo + i) (by omega)]
    congr 2
    simp [hi]
/-- .. as a walk meets it. -/
theorem run_sub {P : Program} {T E : TypeId} (hT : P.underlying T = some (.slice E)) (hE : (P.info? E).map (·.size) = some 1) (a : Option Addr) (n c lo k : Nat) {l h : Int} (hl : l = (lo : Int)) (hh : h = (lo : Int) + (k : Int)) (hc : lo + k ≤ c) (W : World) :
    (Instr.sliceAt T (.slice a n c) (some (.int .i64 l)) (some (.int .i64 h)) none).run P W = .ok (.slice (subA a c lo) k (c - lo)) W := by
  subst hl hh
  have he : P.elem T = E := by simp [Program.elem, hT]
  have hT' : P.underlying T = some (.slice (P.elem T)) := by rw [he]; exact hT
  have e1 : ((lo : Int) + (k : Int)).toNat = lo + k := by omega
  cases hi : P.info? E with
  | none => simp [hi] at hE
  | some i =>
    have hs : i.size = 1 := by simpa [hi] using hE
    rw [run_sliceAt_slice W T _ _ _ _ hT', run_slice_lh W T a n c hT' .i64 .i64 (lo : Int) ((lo : Int) + (k : Int)) (by omega) (by omega) (by omega), he, e1]
    simp [sizeOf, typeInfo, hi, hs, sliced, subA, Result.andThen]
theorem run_subl {P : Program} {T E : TypeId} (hT : P.underlying T = some (.slice E)) (hE : (P.info? E).map (·.size) = some 1) (a : Option Addr) (n c lo : Nat) {l : Int} (hl : l = (lo : Int)) (hn : lo ≤ n) (W : World) :
    (Instr.sliceAt T (.slice a n c) (some (.int .i64 l)) none none).run P W = .ok (.slice (subA a c lo) (n - lo) (c - lo)) W := by
  subst hl
  have he : P.elem T = E := by simp [Program.elem, hT]
  have hT' : P.underlying T = some (.slice (P.elem T)) := by rw [he]; exact hT
  cases hi : P.info? E with
  | none => simp [hi] at hE
  | some i =>
    have hs : i.size = 1 := by simpa [hi] using hE
    rw [run_sliceAt_slice W T _ _ _ _ hT', run_slice_l W T a n c hT' .i64 (lo : Int) (by omega) (by omega), he]
    simp [sizeOf, typeInfo, hi, hs, sliced, subA, Result.andThen]
end
section
open Crm Go.RowKit
theorem tl_yes {x y : ByteArray} (h : x = y) : (x.toList == y.toList) = true := by rw [h]; simp
theorem tl_no {x y : ByteArray} (h : x ≠ y) : (x.toList == y.toList) = false := by
  rw [beq_eq_false_iff_ne]
  intro e
  rw [ByteArray.toList_eq, ByteArray.toList_eq] at e
  exact h (ByteArray.ext (Array.ext' e))
/-- Where a text stands among others. -/
def Ixt (L : List ByteArray) (n : Nat) (x : ByteArray) (r : Int) : Prop := (∃ k : Nat, k < n ∧ tx L k = x ∧ r = (k : Int)) ∨ ((∀ j, j < n → tx L j ≠ x) ∧ r = -1)
theorem Ixt.bd {L : List ByteArray} {n : Nat} {x : ByteArray} {r : Int} (h : Ixt L n x r) : -1 ≤ r ∧ r < (n : Int) := by
  rcases h with ⟨k, hk, _, rfl⟩ | ⟨_, rfl⟩ <;> omega

theorem RdT.take {w : World} {a : Option Addr} {n c : Nat} {L : List ByteArray} (h : RdT w a n c L) {k : Nat} (hk : k ≤ n) : RdT w a k c (L.take k) := by
  have hl := h.len
  have ht : ∀ i, i < k → tx (L.take k) i = tx L i := fun i hi => by simp [tx, List.getElem?_take_of_lt hi]
  refine ⟨by simp; omega, by have := h.cap; omega, h.max, h.nil, fun i hi => by rw [ht i hi]; exact h.bd i (by omega), fun x hx i hi => by rw [ht i hi]; exact h.cell x hx i (by omega)⟩
theorem RdT.sub1 {w : World} {g n c : Nat} {L : List ByteArray} (h : RdT w (some ⟨g, 0, none⟩) (n + 1) c L) : RdT w (subA (some ⟨g, 0, none⟩) c 1) n (c - 1) (L.drop 1) := by
  have hc := h.cap
  have hl := h.len
  obtain ⟨c', rfl⟩ : ∃ c', c = c' + 1 := ⟨c - 1, by omega⟩
  unfold subA
  by_cases e : c' + 1 = 1
  · rw [if_pos e]
    obtain rfl : c' = 0 := by omega
    obtain rfl : n = 0 := by omega
    exact ⟨by simp; omega, by omega, by unfold maxLen; omega, by simp, fun i hi => by omega, fun x hx i hi => by omega⟩
  · rw [if_neg e]
    exact h.tail
/-- Which kind has the word: k, or none. -/
def Knd (x : ByteArray) (k : Nat) : Prop := (1 ≤ k ∧ k < 7 ∧ shw k = x) ∨ (k = 0 ∧ ∀ j, 1 ≤ j → j < 7 → shw j ≠ x)
/-- How many hold. -/
def bn (b : Bool) : Int := if b then 1 else 0

theorem cKind (x : ByteArray) (w : World) (hS : Shp w) :
    Calls Tryd.prog 49 #[.string x] w fun e w' => ∃ k : Nat, e = .returned (.int .i64 k) ∧ Knd x k ∧ w' = w := by
  have slt := hS.lt
  go_enter Tryd.func49, Tryd.ntmps49
  go_wp2
  go_loopw [3] (fun v wr => ∃ k : Nat, (1 ≤ k ∧ k ≤ 7) ∧ v = .int .i64 k ∧ Hid (∀ j, 1 ≤ j → j < k → shw j ≠ x) ∧ wr = w) (fun v _ => 7 - (intOf v).toNat)
  case atStart => exact ⟨1, ⟨by omega, by omega⟩, rfl, fun j h1 h2 => by omega, rfl⟩
  case round =>
    obtain ⟨k, hk, rfl, HK, rfl⟩ := hrel
    have hkk : k = 1 ∨ k = 2 ∨ k = 3 ∨ k = 4 ∨ k = 5 ∨ k = 6 ∨ k = 7 := by omega
    rcases hkk with rfl | rfl | rfl | rfl | rfl | rfl | rfl
    · have s0 : wr.cell? ⟨0, 4, none⟩ = some (.string (shw 1)) := hS.at1.1
      obtain ⟨v, HV⟩ : ∃ v, Hid (shw 1 = v) := ⟨_, rfl⟩
      rw [HV.out] at s0
      by_cases he : v = x
      · have HN : Hid (Knd x 1) := .inl ⟨by omega, by omega, by rw [HV.out]; exact he⟩
        have hy := tl_yes he
        clear he
        go_wp2
        go_ret
        exact ⟨1, rfl, HN.out, rfl⟩
      · have HN : Hid (∀ j, 1 ≤ j → j < 2 → shw j ≠ x) := fun j h1 h2 => by
          by_cases e : j = 1
          · rw [e, HV.out]; exact he
          · exact HK.out j h1 (by omega)
        have hy := tl_no he
        clear he
        go_wp2
        go_roundw
        case rel => exact ⟨2, ⟨by omega, by omega⟩, by go_num, HN, by trivial⟩
        case measure => simp [intOf]
    · have s0 : wr.cell? ⟨0, 8, none⟩ = some (.string (shw 2)) := hS.at2.1
      obtain ⟨v, HV⟩ : ∃ v, Hid (shw 2 = v) := ⟨_, rfl⟩
      rw [HV.out] at s0
      by_cases he : v = x
      · have HN : Hid (Knd x 2) := .inl ⟨by omega, by omega, by rw [HV.out]; exact he⟩
        have hy := tl_yes he
        clear he
        go_wp2
        go_ret
        exact ⟨2, rfl, HN.out, rfl⟩
      · have HN : Hid (∀ j, 1 ≤ j → j < 3 → shw j ≠ x) := fun j h1 h2 => by
          by_cases e : j = 2
          · rw [e, HV.out]; exact he
          · exact HK.out j h1 (by omega)
        have hy := tl_no he
        clear he
        go_wp2
        go_roundw
        case rel => exact ⟨3, ⟨by omega, by omega⟩, by go_num, HN, by trivial⟩
        case measure => simp [intOf]
    · have s0 : wr.cell? ⟨0, 12, none⟩ = some (.string (shw 3)) := hS.at3.1
      obtain ⟨v, HV⟩ : ∃ v, Hid (shw 3 = v) := ⟨_, rfl⟩
      rw [HV.out] at s0
      by_cases he : v = x
      · have HN : Hid (Knd x 3) := .inl ⟨by omega, by omega, by rw [HV.out]; exact he⟩
        have hy := tl_yes he
        clear he
        go_wp2
        go_ret
        exact ⟨3, rfl, HN.out, rfl⟩
      · have HN : Hid (∀ j, 1 ≤ j → j < 4 → shw j ≠ x) := fun j h1 h2 => by
          by_cases e : j = 3
          · rw [e, HV.out]; exact he
          · exact HK.out j h1 (by omega)
        have hy := tl_no he
        clear he
        go_wp2
        go_roundw
        case rel => exact ⟨4, ⟨by omega, by omega⟩, by go_num, HN, by trivial⟩
        case measure => simp [intOf]
    · have s0 : wr.cell? ⟨0, 16, none⟩ = some (.string (shw 4)) := hS.at4.1
      obtain ⟨v, HV⟩ : ∃ v, Hid (shw 4 = v) := ⟨_, rfl⟩
      rw [HV.out] at s0
      by_cases he : v = x
      · have HN : Hid (Knd x 4) := .inl ⟨by omega, by omega, by rw [HV.out]; exact he⟩
        have hy := tl_yes he
        clear he
        go_wp2
        go_ret
        exact ⟨4, rfl, HN.out, rfl⟩
      · have HN : Hid (∀ j, 1 ≤ j → j < 5 → shw j ≠ x) := fun j h1 h2 => by
          by_cases e : j = 4
          · rw [e, HV.out]; exact he
          · exact HK.out j h1 (by omega)
        have hy := tl_no he
        clear he
        go_wp2
        go_roundw
        case rel => exact ⟨5, ⟨by omega, by omega⟩, by go_num, HN, by trivial⟩
        case measure => simp [intOf]
    · have s0 : wr.cell? ⟨0, 20, none⟩ = some (.string (shw 5)) := hS.at5.1
      obtain ⟨v, HV⟩ : ∃ v, Hid (shw 5 = v) := ⟨_, rfl⟩
      rw [HV.out] at s0
      by_cases he : v = x
      · have HN : Hid (Knd x 5) := .inl ⟨by omega, by omega, by rw [HV.out]; exact he⟩
        have hy := tl_yes he
        clear he
        go_wp2
        go_ret
        exact ⟨5, rfl, HN.out, rfl⟩
      · have HN : Hid (∀ j, 1 ≤ j → j < 6 → shw j ≠ x) := fun j h1 h2 => by
          by_cases e : j = 5
          · rw [e, HV.out]; exact he
          · exact HK.out j h1 (by omega)
        have hy := tl_no he
        clear he
        go_wp2
        go_roundw
        case rel => exact ⟨6, ⟨by omega, by omega⟩, by go_num, HN, by trivial⟩
        case measure => simp [intOf]
    · have s0 : wr.cell? ⟨0, 24, none⟩ = some (.string (shw 6)) := hS.at6.1
      obtain ⟨v, HV⟩ : ∃ v, Hid (shw 6 = v) := ⟨_, rfl⟩
      rw [HV.out] at s0
      by_cases he : v = x
      · have HN : Hid (Knd x 6) := .inl ⟨by omega, by omega, by rw [HV.out]; exact he⟩
        have hy := tl_yes he
        clear he
        go_wp2
        go_ret
        exact ⟨6, rfl, HN.out, rfl⟩
      · have HN : Hid (∀ j, 1 ≤ j → j < 7 → shw j ≠ x) := fun j h1 h2 => by
          by_cases e : j = 6
          · rw [e, HV.out]; exact he
          · exact HK.out j h1 (by omega)
        have hy := tl_no he
        clear he
        go_wp2
        go_roundw
        case rel => exact ⟨7, ⟨by omega, by omega⟩, by go_num, HN, by trivial⟩
        case measure => simp [intOf]
    · have HN : Hid (Knd x 0) := .inr ⟨rfl, HK.out⟩
      go_wp2
      go_ret
      exact ⟨0, rfl, HN.out, rfl⟩

theorem cCount (g : Nat) (a b c : Bool) (w : World) (h0 : w.cell? ⟨g, 0, none⟩ = some (.bool a)) (h1 : w.cell? ⟨g, 1, none⟩ = some (.bool b)) (h2 : w.cell? ⟨g, 2, none⟩ = some (.bool c)) (hg : g < w.heap.size) :
    Calls Tryd.prog 50 #[.slice (some ⟨g, 0, none⟩) 3 3] w fun e w' => e = .returned (.int .i64 (bn a + bn b + bn c)) ∧ w' = w := by
  go_enter Tryd.func50, Tryd.ntmps50
  go_wp2
  go_loopw [3, 8] (fun v i wr => wr = w ∧ ∃ k : Nat, k ≤ 3 ∧ i = .int .i64 k ∧ Hid (∃ z : Int, v = .int .i64 z ∧ (0 ≤ z ∧ z ≤ 3) ∧ z = ((if 0 < k then bn a else 0) + (if 1 < k then bn b else 0) + (if 2 < k then bn c else 0)))) (fun _ i _ => 3 - (intOf i).toNat)
  case atStart => exact ⟨rfl, 0, by omega, rfl, 0, rfl, ⟨by omega, by omega⟩, by simp⟩
  case round =>
    obtain ⟨rfl, k, hk, rfl, HV⟩ := hrel
    obtain ⟨z, rfl, hz, hv⟩ := HV.out
    have HZ : Hid (z = _) := hv
    have ba : bn a = 0 ∨ bn a = 1 := by cases a <;> simp [bn]
    have bb : bn b = 0 ∨ bn b = 1 := by cases b <;> simp [bn]
    have bc : bn c = 0 ∨ bn c = 1 := by cases c <;> simp [bn]
    have hkk : k = 0 ∨ k = 1 ∨ k = 2 ∨ k = 3 := by omega
    clear HV hv
    rcases hkk with rfl | rfl | rfl | rfl
    · have hz0 : z = 0 := by have := HZ.out; simpa using this
      subst hz0
      cases a
      · go_wp2
        go_roundw
        case rel => exact ⟨by trivial, 1, by omega, by go_num, 0, rfl, ⟨by omega, by omega⟩, by simp [bn]⟩
        case measure => simp [intOf]
      · go_wp2
        go_roundw
        case rel => exact ⟨by trivial, 1, by omega, by go_num, 1, rfl, ⟨by omega, by omega⟩, by simp [bn]⟩
        case measure => simp [intOf]
    · have hz1 : z = bn a := by have := HZ.out; simpa using this
      have hzb : z ≤ 1 := by omega
      have HZ1 : Hid (z = bn a) := hz1
      clear HZ hz1 ba bb bc
      cases b
      · go_wp2
        go_roundw
        case rel => exact ⟨by trivial, 2, by omega, by go_num, z, rfl, hz, by have := HZ1.out; simp [bn] at this ⊢; omega⟩
        case measure => simp [intOf]
      · go_wp2
        go_roundw
        case rel => exact ⟨by trivial, 2, by omega, by go_num, z + 1, rfl, ⟨by omega, by omega⟩, by have := HZ1.out; simp [bn] at this ⊢; omega⟩
        case measure => simp [intOf]
    · have hz1 : z = bn a + bn b := by have := HZ.out; simpa using this
      have hzb : z ≤ 2 := by omega
      have HZ1 : Hid (z = bn a + bn b) := hz1
      clear HZ hz1 ba bb bc
      cases c
      · go_wp2
        go_roundw
        case rel => exact ⟨by trivial, 3, by omega, by go_num, z, rfl, hz, by have := HZ1.out; simp [bn] at this ⊢; omega⟩
        case measure => simp [intOf]
      · go_wp2
        go_roundw
        case rel => exact ⟨by trivial, 3, by omega, by go_num, z + 1, rfl, ⟨by omega, by omega⟩, by have := HZ1.out; simp [bn] at this ⊢; omega⟩
        case measure => simp [intOf]
    · have hz1 : z = bn a + bn b + bn c := by have := HZ.out; simpa using this
      have HZ1 : Hid (z = bn a + bn b + bn c) := hz1
      clear HZ ba bb bc hz1
      go_wp2
      go_ret
      exact ⟨by rw [← HZ1.out]; rfl, rfl⟩
theorem cAheadY (x c : Int) (w : World) (h0 : 0 ≤ x) (h1 : x < c) : Calls Tryd.prog 26 #[.int .i64 x, .int .i64 c] w fun e w' => e = .returned (.bool true) ∧ w' = w := by
  go_enter Tryd.func26, Tryd.ntmps26
  go_wp2
  go_ret
  exact ⟨rfl, rfl⟩
theorem cAheadN (x c : Int) (w : World) (h : x < 0 ∨ c ≤ x) : Calls Tryd.prog 26 #[.int .i64 x, .int .i64 c] w fun e w' => e = .returned (.bool false) ∧ w' = w := by
  by_cases h0 : x < 0
  · go_enter Tryd.func26, Tryd.ntmps26
    go_wp2
    go_ret
    exact ⟨rfl, rfl⟩
  · have h1 : ¬ x < c := by omega
    have h2 : 0 ≤ x := by omega
    clear h h0
    go_enter Tryd.func26, Tryd.ntmps26
    go_wp2
    go_ret
    exact ⟨rfl, rfl⟩
/-- The cells of a shape that is boxed. -/
theorem shape_box (w : World) (s : ByteArray) (a b n : Bool) (E : TypeId) : (w.alloc (.cells #[.string s, .bool a, .bool b, .bool n] E)).cell? ⟨w.heap.size, 0, none⟩ = some (.string s) ∧ (w.alloc (.cells #[.string s, .bool a, .bool b, .bool n] E)).cell? ⟨w.heap.size, 1, none⟩ = some (.bool a) ∧ (w.alloc (.cells #[.string s, .bool a, .bool b, .bool n] E)).cell? ⟨w.heap.size, 2, none⟩ = some (.bool b) ∧ (w.alloc (.cells #[.string s, .bool a, .bool b, .bool n] E)).cell? ⟨w.heap.size, 3, none⟩ = some (.bool n) := by
  have h := heap_alloc_new w (.cells #[.string s, .bool a, .bool b, .bool n] E)
  refine ⟨?_, ?_, ?_, ?_⟩ <;> (rw [cell_of_row _ _ _ _ E (0, 0) h]; rfl)

/-- What gateRight answers. -/
def Gri (i : Nat) (g : Gt) (w : World) (e : Ending) (w' : World) : Prop := ((okg i g ∧ e = .returned (.bool true)) ∨ (¬ okg i g ∧ e = .returned (.bool false))) ∧ Below w.heap.size w w'
theorem Gri.y {i : Nat} {g : Gt} {w w' : World} (h : okg i g) (hb : Below w.heap.size w w') : Gri i g w (.returned (.bool true)) w' := ⟨.inl ⟨h, rfl⟩, hb⟩
theorem Gri.n {i : Nat} {g : Gt} {w w' : World} (h : ¬ okg i g) (hb : Below w.heap.size w w') : Gri i g w (.returned (.bool false)) w' := ⟨.inr ⟨h, rfl⟩, hb⟩

theorem cGateRight (k x y z : Int) (i : Nat) (w : World) (hk : -9223372036854775808 ≤ k ∧ k ≤ 9223372036854775807) (hx : -9223372036854775808 ≤ x ∧ x ≤ 9223372036854775807) (hy : -9223372036854775808 ≤ y ∧ y ≤ 9223372036854775807) (hz : 0 ≤ z ∧ z ≤ 18446744073709551615) (hS : Shp w) :
    Calls Tryd.prog 25 #[.agg #[.int .i64 k, .int .i64 x, .int .i64 y, .int .u64 z], .int .i64 i] w fun e w' => Gri i ⟨k, x, y, z⟩ w e w' := by
  have hb0 : Below w.heap.size w (w.alloc (.cells #[.int .i64 k, .int .i64 x, .int .i64 y, .int .u64 z] 52)) := (Below.refl _ _).alloc (Nat.le_refl _) _
  obtain ⟨q1, q2, q3, q4⟩ := gate_box w k x y z 52
  have hlt : w.heap.size < (w.alloc (.cells #[.int .i64 k, .int .i64 x, .int .i64 y, .int .u64 z] 52)).heap.size := by simp
  go_enter Tryd.func25, Tryd.ntmps25
  go_upto_region 1 with fail
  generalize w.alloc (.cells #[.int .i64 k, .int .i64 x, .int .i64 y, .int .u64 z] 52) = W at *
  have hS0 := hS.below hb0
  clear hS
  by_cases hk1 : k < 1
  · have HN : Hid (¬ okg i ⟨k, x, y, z⟩) := by unfold Hid okg; simp only; omega
    go_wp2
    go_ret
    exact Gri.n HN.out hb0
  by_cases hk6 : 6 < k
  · have HN : Hid (¬ okg i ⟨k, x, y, z⟩) := by unfold Hid okg; simp only; omega
    go_wp2
    go_ret
    exact Gri.n HN.out hb0
  have hkk : k = 1 ∨ k = 2 ∨ k = 3 ∨ k = 4 ∨ k = 5 ∨ k = 6 := by omega
  clear hk1 hk6
  rcases hkk with rfl | rfl | rfl | rfl | rfl | rfl
  · obtain ⟨s0, s1, s2, s3⟩ := hS0.at1
    have slt := hS0.lt
    have hb1' : Below W.heap.size W (W.alloc (.cells #[.string ⟨#[105, 110, 112, 117, 116]⟩, .bool true, .bool false, .bool false] 72)) := (Below.refl _ _).alloc (Nat.le_refl _) _
    have hb1 := hb0.trans (hb1'.mono hb0.size)
    obtain ⟨t0, t1, t2, t3⟩ := shape_box W ⟨#[105, 110, 112, 117, 116]⟩ true false false 72
    have hlt1 : W.heap.size < (W.alloc (.cells #[.string ⟨#[105, 110, 112, 117, 116]⟩, .bool true, .bool false, .bool false] 72)).heap.size := by simp
    have r1 : (W.alloc (.cells #[.string ⟨#[105, 110, 112, 117, 116]⟩, .bool true, .bool false, .bool false] 72)).cell? ⟨w.heap.size, 0, none⟩ = some (.int .i64 1) := by rw [hb1'.cell (p := ⟨w.heap.size, 0, none⟩) hlt]; exact q1
    have r2 : (W.alloc (.cells #[.string ⟨#[105, 110, 112, 117, 116]⟩, .bool true, .bool false, .bool false] 72)).cell? ⟨w.heap.size, 1, none⟩ = some (.int .i64 x) := by rw [hb1'.cell (p := ⟨w.heap.size, 1, none⟩) hlt]; exact q2
    have r3 : (W.alloc (.cells #[.string ⟨#[105, 110, 112, 117, 116]⟩, .bool true, .bool false, .bool false] 72)).cell? ⟨w.heap.size, 2, none⟩ = some (.int .i64 y) := by rw [hb1'.cell (p := ⟨w.heap.size, 2, none⟩) hlt]; exact q3
    have r4 : (W.alloc (.cells #[.string ⟨#[105, 110, 112, 117, 116]⟩, .bool true, .bool false, .bool false] 72)).cell? ⟨w.heap.size, 3, none⟩ = some (.int .u64 z) := by rw [hb1'.cell (p := ⟨w.heap.size, 3, none⟩) hlt]; exact q4
    have hlt2 := Nat.lt_trans hlt hlt1
    go_upto_region 4 with fail
    generalize W.alloc (.cells #[.string ⟨#[105, 110, 112, 117, 116]⟩, .bool true, .bool false, .bool false] 72) = V at *
    clear s0 s1 s2 s3 q1 q2 q3 q4 hb1' hb0 hS0
    by_cases hy0 : y = 0
    · subst hy0
      by_cases hz0 : z = 0
      · subst hz0
        by_cases hx1 : x < 1
        · have HN : Hid (¬ okg i ⟨1, x, 0, 0⟩) := by unfold Hid okg; simp only; omega
          go_wp2
          go_ret
          exact Gri.n HN.out hb1
        · by_cases hx9 : 9 < x
          · have hx9n : ¬ x ≤ 9 := by omega
            clear hx9
            have HN : Hid (¬ okg i ⟨1, x, 0, 0⟩) := by unfold Hid okg; simp only; omega
            go_wp2
            go_ret
            exact Gri.n HN.out hb1
          · have HY : Hid (okg i ⟨1, x, 0, 0⟩) := .inl ⟨rfl, ⟨by simp only; omega, by simp only; omega⟩, rfl, rfl⟩
            go_wp2
            go_ret
            exact Gri.y HY.out hb1
      · have hbz : (z == 0) = false := by rw [beq_eq_false_iff_ne]; exact hz0
        have hcz : (z != 0) = true := by rw [bne_iff_ne]; exact hz0
        have HN : Hid (¬ okg i ⟨1, x, 0, z⟩) := by unfold Hid okg; simp only; omega
        go_wp2
        go_ret
        exact Gri.n HN.out hb1
    · have hby : (y == 0) = false := by rw [beq_eq_false_iff_ne]; exact hy0
      have hcy : (y != 0) = true := by rw [bne_iff_ne]; exact hy0
      have HN : Hid (¬ okg i ⟨1, x, y, z⟩) := by unfold Hid okg; simp only; omega
      go_wp2
      go_ret
      exact Gri.n HN.out hb1
  · obtain ⟨s0, s1, s2, s3⟩ := hS0.at2
    have slt := hS0.lt
    have hb1' : Below W.heap.size W (W.alloc (.cells #[.string ⟨#[99, 111, 110, 115, 116]⟩, .bool false, .bool false, .bool true] 72)) := (Below.refl _ _).alloc (Nat.le_refl _) _
    have hb1 := hb0.trans (hb1'.mono hb0.size)
    obtain ⟨t0, t1, t2, t3⟩ := shape_box W ⟨#[99, 111, 110, 115, 116]⟩ false false true 72
    have hlt1 : W.heap.size < (W.alloc (.cells #[.string ⟨#[99, 111, 110, 115, 116]⟩, .bool false, .bool false, .bool true] 72)).heap.size := by simp
    have r1 : (W.alloc (.cells #[.string ⟨#[99, 111, 110, 115, 116]⟩, .bool false, .bool false, .bool true] 72)).cell? ⟨w.heap.size, 0, none⟩ = some (.int .i64 2) := by rw [hb1'.cell (p := ⟨w.heap.size, 0, none⟩) hlt]; exact q1
    have r2 : (W.alloc (.cells #[.string ⟨#[99, 111, 110, 115, 116]⟩, .bool false, .bool false, .bool true] 72)).cell? ⟨w.heap.size, 1, none⟩ = some (.int .i64 x) := by rw [hb1'.cell (p := ⟨w.heap.size, 1, none⟩) hlt]; exact q2
    have r3 : (W.alloc (.cells #[.string ⟨#[99, 111, 110, 115, 116]⟩, .bool false, .bool false, .bool true] 72)).cell? ⟨w.heap.size, 2, none⟩ = some (.int .i64 y) := by rw [hb1'.cell (p := ⟨w.heap.size, 2, none⟩) hlt]; exact q3
    have r4 : (W.alloc (.cells #[.string ⟨#[99, 111, 110, 115, 116]⟩, .bool false, .bool false, .bool true] 72)).cell? ⟨w.heap.size, 3, none⟩ = some (.int .u64 z) := by rw [hb1'.cell (p := ⟨w.heap.size, 3, none⟩) hlt]; exact q4
    have hlt2 := Nat.lt_trans hlt hlt1
    go_upto_region 4 with fail
    generalize W.alloc (.cells #[.string ⟨#[99, 111, 110, 115, 116]⟩, .bool false, .bool false, .bool true] 72) = V at *
    clear s0 s1 s2 s3 q1 q2 q3 q4 hb1' hb0 hS0
    by_cases hx0 : x = 0
    · subst hx0
      by_cases hy0 : y = 0
      · subst hy0
        have HY : Hid (okg i ⟨2, 0, 0, z⟩) := .inr (.inl ⟨rfl, rfl, rfl⟩)
        go_wp2
        go_ret
        exact Gri.y HY.out hb1
      · have hby : (y == 0) = false := by rw [beq_eq_false_iff_ne]; exact hy0
        have hcy : (y != 0) = true := by rw [bne_iff_ne]; exact hy0
        have HN : Hid (¬ okg i ⟨2, 0, y, z⟩) := by unfold Hid okg; simp only; omega
        go_wp2
        go_ret
        exact Gri.n HN.out hb1
    · have hbx : (x == 0) = false := by rw [beq_eq_false_iff_ne]; exact hx0
      have hcx : (x != 0) = true := by rw [bne_iff_ne]; exact hx0
      have HN : Hid (¬ okg i ⟨2, x, y, z⟩) := by unfold Hid okg; simp only; omega
      go_wp2
      go_ret
      exact Gri.n HN.out hb1
  · obtain ⟨s0, s1, s2, s3⟩ := hS0.at3
    have slt := hS0.lt
    have hb1' : Below W.heap.size W (W.alloc (.cells #[.string ⟨#[97, 100, 100]⟩, .bool true, .bool true, .bool false] 72)) := (Below.refl _ _).alloc (Nat.le_refl _) _
    have hb1 := hb0.trans (hb1'.mono hb0.size)
    obtain ⟨t0, t1, t2, t3⟩ := shape_box W ⟨#[97, 100, 100]⟩ true true false 72
    have hlt1 : W.heap.size < (W.alloc (.cells #[.string ⟨#[97, 100, 100]⟩, .bool true, .bool true, .bool false] 72)).heap.size := by simp
    have r1 : (W.alloc (.cells #[.string ⟨#[97, 100, 100]⟩, .bool true, .bool true, .bool false] 72)).cell? ⟨w.heap.size, 0, none⟩ = some (.int .i64 3) := by rw [hb1'.cell (p := ⟨w.heap.size, 0, none⟩) hlt]; exact q1
    have r2 : (W.alloc (.cells #[.string ⟨#[97, 100, 100]⟩, .bool true, .bool true, .bool false] 72)).cell? ⟨w.heap.size, 1, none⟩ = some (.int .i64 x) := by rw [hb1'.cell (p := ⟨w.heap.size, 1, none⟩) hlt]; exact q2
    have r3 : (W.alloc (.cells #[.string ⟨#[97, 100, 100]⟩, .bool true, .bool true, .bool false] 72)).cell? ⟨w.heap.size, 2, none⟩ = some (.int .i64 y) := by rw [hb1'.cell (p := ⟨w.heap.size, 2, none⟩) hlt]; exact q3
    have r4 : (W.alloc (.cells #[.string ⟨#[97, 100, 100]⟩, .bool true, .bool true, .bool false] 72)).cell? ⟨w.heap.size, 3, none⟩ = some (.int .u64 z) := by rw [hb1'.cell (p := ⟨w.heap.size, 3, none⟩) hlt]; exact q4
    have hlt2 := Nat.lt_trans hlt hlt1
    go_upto_region 4 with fail
    generalize W.alloc (.cells #[.string ⟨#[97, 100, 100]⟩, .bool true, .bool true, .bool false] 72) = V at *
    clear s0 s1 s2 s3 q1 q2 q3 q4 hb1' hb0 hS0
    by_cases hz0 : z = 0
    · subst hz0
      by_cases hxr : x < 0 ∨ (i : Int) ≤ x
      · have Hx : Hid (x < 0 ∨ (i : Int) ≤ x) := hxr
        have HN : Hid (¬ okg i ⟨3, x, y, 0⟩) := by unfold Hid okg; simp only; omega
        go_wp2_with (first | (go_at_call_of 26 (Value.int .i64 x); refine (cAheadN _ _ _ Hx.out).mono ?_; rintro e w' ⟨rfl, hw⟩; have hw := hw.symm; subst hw))
        go_ret
        exact Gri.n HN.out hb1
      · have Hx : Hid (0 ≤ x ∧ x < (i : Int)) := ⟨by omega, by omega⟩
        by_cases hyr : y < 0 ∨ (i : Int) ≤ y
        · have Hy : Hid (y < 0 ∨ (i : Int) ≤ y) := hyr
          have HN : Hid (¬ okg i ⟨3, x, y, 0⟩) := by unfold Hid okg; simp only; omega
          go_wp2_with (first | (go_at_call_of 26 (Value.int .i64 x); refine (cAheadY _ _ _ Hx.out.1 Hx.out.2).mono ?_; rintro e w' ⟨rfl, hw⟩; have hw := hw.symm; subst hw) | (go_at_call_of 26 (Value.int .i64 y); refine (cAheadN _ _ _ Hy.out).mono ?_; rintro e w' ⟨rfl, hw⟩; have hw := hw.symm; subst hw))
          go_ret
          exact Gri.n HN.out hb1
        · have Hy : Hid (0 ≤ y ∧ y < (i : Int)) := ⟨by omega, by omega⟩
          have HY : Hid (okg i ⟨3, x, y, 0⟩) := .inr (.inr (.inr ⟨.inl rfl, Hx.out, Hy.out, rfl⟩))
          go_wp2_with (first | (go_at_call_of 26 (Value.int .i64 x); refine (cAheadY _ _ _ Hx.out.1 Hx.out.2).mono ?_; rintro e w' ⟨rfl, hw⟩; have hw := hw.symm; subst hw) | (go_at_call_of 26 (Value.int .i64 y); refine (cAheadY _ _ _ Hy.out.1 Hy.out.2).mono ?_; rintro e w' ⟨rfl, hw⟩; have hw := hw.symm; subst hw))
          go_ret
          exact Gri.y HY.out hb1
    · have hbz : (z == 0) = false := by rw [beq_eq_false_iff_ne]; exact hz0
      have hcz : (z != 0) = true := by rw [bne_iff_ne]; exact hz0
      have HN : Hid (¬ okg i ⟨3, x, y, z⟩) := by unfold Hid okg; simp only; omega
      go_wp2
      go_ret
      exact Gri.n HN.out hb1
  · obtain ⟨s0, s1, s2, s3⟩ := hS0.at4
    have slt := hS0.lt
    have hb1' : Below W.heap.size W (W.alloc (.cells #[.string ⟨#[115, 117, 98]⟩, .bool true, .bool true, .bool false] 72)) := (Below.refl _ _).alloc (Nat.le_refl _) _
    have hb1 := hb0.trans (hb1'.mono hb0.size)
    obtain ⟨t0, t1, t2, t3⟩ := shape_box W ⟨#[115, 117, 98]⟩ true true false 72
    have hlt1 : W.heap.size < (W.alloc (.cells #[.string ⟨#[115, 117, 98]⟩, .bool true, .bool true, .bool false] 72)).heap.size := by simp
    have r1 : (W.alloc (.cells #[.string ⟨#[115, 117, 98]⟩, .bool true, .bool true, .bool false] 72)).cell? ⟨w.heap.size, 0, none⟩ = some (.int .i64 4) := by rw [hb1'.cell (p := ⟨w.heap.size, 0, none⟩) hlt]; exact q1
    have r2 : (W.alloc (.cells #[.string ⟨#[115, 117, 98]⟩, .bool true, .bool true, .bool false] 72)).cell? ⟨w.heap.size, 1, none⟩ = some (.int .i64 x) := by rw [hb1'.cell (p := ⟨w.heap.size, 1, none⟩) hlt]; exact q2
    have r3 : (W.alloc (.cells #[.string ⟨#[115, 117, 98]⟩, .bool true, .bool true, .bool false] 72)).cell? ⟨w.heap.size, 2, none⟩ = some (.int .i64 y) := by rw [hb1'.cell (p := ⟨w.heap.size, 2, none⟩) hlt]; exact q3
    have r4 : (W.alloc (.cells #[.string ⟨#[115, 117, 98]⟩, .bool true, .bool true, .bool false] 72)).cell? ⟨w.heap.size, 3, none⟩ = some (.int .u64 z) := by rw [hb1'.cell (p := ⟨w.heap.size, 3, none⟩) hlt]; exact q4
    have hlt2 := Nat.lt_trans hlt hlt1
    go_upto_region 4 with fail
    generalize W.alloc (.cells #[.string ⟨#[115, 117, 98]⟩, .bool true, .bool true, .bool false] 72) = V at *
    clear s0 s1 s2 s3 q1 q2 q3 q4 hb1' hb0 hS0
    by_cases hz0 : z = 0
    · subst hz0
      by_cases hxr : x < 0 ∨ (i : Int) ≤ x
      · have Hx : Hid (x < 0 ∨ (i : Int) ≤ x) := hxr
        have HN : Hid (¬ okg i ⟨4, x, y, 0⟩) := by unfold Hid okg; simp only; omega
        go_wp2_with (first | (go_at_call_of 26 (Value.int .i64 x); refine (cAheadN _ _ _ Hx.out).mono ?_; rintro e w' ⟨rfl, hw⟩; have hw := hw.symm; subst hw))
        go_ret
        exact Gri.n HN.out hb1
      · have Hx : Hid (0 ≤ x ∧ x < (i : Int)) := ⟨by omega, by omega⟩
        by_cases hyr : y < 0 ∨ (i : Int) ≤ y
        · have Hy : Hid (y < 0 ∨ (i : Int) ≤ y) := hyr
          have HN : Hid (¬ okg i ⟨4, x, y, 0⟩) := by unfold Hid okg; simp only; omega
          go_wp2_with (first | (go_at_call_of 26 (Value.int .i64 x); refine (cAheadY _ _ _ Hx.out.1 Hx.out.2).mono ?_; rintro e w' ⟨rfl, hw⟩; have hw := hw.symm; subst hw) | (go_at_call_of 26 (Value.int .i64 y); refine (cAheadN _ _ _ Hy.out).mono ?_; rintro e w' ⟨rfl, hw⟩; have hw := hw.symm; subst hw))
          go_ret
          exact Gri.n HN.out hb1
        · have Hy : Hid (0 ≤ y ∧ y < (i : Int)) := ⟨by omega, by omega⟩
          have HY : Hid (okg i ⟨4, x, y, 0⟩) := .inr (.inr (.inr ⟨.inr (.inl rfl), Hx.out, Hy.out, rfl⟩))
          go_wp2_with (first | (go_at_call_of 26 (Value.int .i64 x); refine (cAheadY _ _ _ Hx.out.1 Hx.out.2).mono ?_; rintro e w' ⟨rfl, hw⟩; have hw := hw.symm; subst hw) | (go_at_call_of 26 (Value.int .i64 y); refine (cAheadY _ _ _ Hy.out.1 Hy.out.2).mono ?_; rintro e w' ⟨rfl, hw⟩; have hw := hw.symm; subst hw))
          go_ret
          exact Gri.y HY.out hb1
    · have hbz : (z == 0) = false := by rw [beq_eq_false_iff_ne]; exact hz0
      have hcz : (z != 0) = true := by rw [bne_iff_ne]; exact hz0
      have HN : Hid (¬ okg i ⟨4, x, y, z⟩) := by unfold Hid okg; simp only; omega
      go_wp2
      go_ret
      exact Gri.n HN.out hb1
  · obtain ⟨s0, s1, s2, s3⟩ := hS0.at5
    have slt := hS0.lt
    have hb1' : Below W.heap.size W (W.alloc (.cells #[.string ⟨#[109, 117, 108]⟩, .bool true, .bool true, .bool false] 72)) := (Below.refl _ _).alloc (Nat.le_refl _) _
    have hb1 := hb0.trans (hb1'.mono hb0.size)
    obtain ⟨t0, t1, t2, t3⟩ := shape_box W ⟨#[109, 117, 108]⟩ true true false 72
    have hlt1 : W.heap.size < (W.alloc (.cells #[.string ⟨#[109, 117, 108]⟩, .bool true, .bool true, .bool false] 72)).heap.size := by simp
    have r1 : (W.alloc (.cells #[.string ⟨#[109, 117, 108]⟩, .bool true, .bool true, .bool false] 72)).cell? ⟨w.heap.size, 0, none⟩ = some (.int .i64 5) := by rw [hb1'.cell (p := ⟨w.heap.size, 0, none⟩) hlt]; exact q1
    have r2 : (W.alloc (.cells #[.string ⟨#[109, 117, 108]⟩, .bool true, .bool true, .bool false] 72)).cell? ⟨w.heap.size, 1, none⟩ = some (.int .i64 x) := by rw [hb1'.cell (p := ⟨w.heap.size, 1, none⟩) hlt]; exact q2
    have r3 : (W.alloc (.cells #[.string ⟨#[109, 117, 108]⟩, .bool true, .bool true, .bool false] 72)).cell? ⟨w.heap.size, 2, none⟩ = some (.int .i64 y) := by rw [hb1'.cell (p := ⟨w.heap.size, 2, none⟩) hlt]; exact q3
    have r4 : (W.alloc (.cells #[.string ⟨#[109, 117, 108]⟩, .bool true, .bool true, .bool false] 72)).cell? ⟨w.heap.size, 3, none⟩ = some (.int .u64 z) := by rw [hb1'.cell (p := ⟨w.heap.size, 3, none⟩) hlt]; exact q4
    have hlt2 := Nat.lt_trans hlt hlt1
    go_upto_region 4 with fail
    generalize W.alloc (.cells #[.string ⟨#[109, 117, 108]⟩, .bool true, .bool true, .bool false] 72) = V at *
    clear s0 s1 s2 s3 q1 q2 q3 q4 hb1' hb0 hS0
    by_cases hz0 : z = 0
    · subst hz0
      by_cases hxr : x < 0 ∨ (i : Int) ≤ x
      · have Hx : Hid (x < 0 ∨ (i : Int) ≤ x) := hxr
        have HN : Hid (¬ okg i ⟨5, x, y, 0⟩) := by unfold Hid okg; simp only; omega
        go_wp2_with (first | (go_at_call_of 26 (Value.int .i64 x); refine (cAheadN _ _ _ Hx.out).mono ?_; rintro e w' ⟨rfl, hw⟩; have hw := hw.symm; subst hw))
        go_ret
        exact Gri.n HN.out hb1
      · have Hx : Hid (0 ≤ x ∧ x < (i : Int)) := ⟨by omega, by omega⟩
        by_cases hyr : y < 0 ∨ (i : Int) ≤ y
        · have Hy : Hid (y < 0 ∨ (i : Int) ≤ y) := hyr
          have HN : Hid (¬ okg i ⟨5, x, y, 0⟩) := by unfold Hid okg; simp only; omega
          go_wp2_with (first | (go_at_call_of 26 (Value.int .i64 x); refine (cAheadY _ _ _ Hx.out.1 Hx.out.2).mono ?_; rintro e w' ⟨rfl, hw⟩; have hw := hw.symm; subst hw) | (go_at_call_of 26 (Value.int .i64 y); refine (cAheadN _ _ _ Hy.out).mono ?_; rintro e w' ⟨rfl, hw⟩; have hw := hw.symm; subst hw))
          go_ret
          exact Gri.n HN.out hb1
        · have Hy : Hid (0 ≤ y ∧ y < (i : Int)) := ⟨by omega, by omega⟩
          have HY : Hid (okg i ⟨5, x, y, 0⟩) := .inr (.inr (.inr ⟨.inr (.inr rfl), Hx.out, Hy.out, rfl⟩))
          go_wp2_with (first | (go_at_call_of 26 (Value.int .i64 x); refine (cAheadY _ _ _ Hx.out.1 Hx.out.2).mono ?_; rintro e w' ⟨rfl, hw⟩; have hw := hw.symm; subst hw) | (go_at_call_of 26 (Value.int .i64 y); refine (cAheadY _ _ _ Hy.out.1 Hy.out.2).mono ?_; rintro e w' ⟨rfl, hw⟩; have hw := hw.symm; subst hw))
          go_ret
          exact Gri.y HY.out hb1
    · have hbz : (z == 0) = false := by rw [beq_eq_false_iff_ne]; exact hz0
      have hcz : (z != 0) = true := by rw [bne_iff_ne]; exact hz0
      have HN : Hid (¬ okg i ⟨5, x, y, z⟩) := by unfold Hid okg; simp only; omega
      go_wp2
      go_ret
      exact Gri.n HN.out hb1
  · obtain ⟨s0, s1, s2, s3⟩ := hS0.at6
    have slt := hS0.lt
    have hb1' : Below W.heap.size W (W.alloc (.cells #[.string ⟨#[115, 99, 97, 108, 101]⟩, .bool true, .bool false, .bool true] 72)) := (Below.refl _ _).alloc (Nat.le_refl _) _
    have hb1 := hb0.trans (hb1'.mono hb0.size)
    obtain ⟨t0, t1, t2, t3⟩ := shape_box W ⟨#[115, 99, 97, 108, 101]⟩ true false true 72
    have hlt1 : W.heap.size < (W.alloc (.cells #[.string ⟨#[115, 99, 97, 108, 101]⟩, .bool true, .bool false, .bool true] 72)).heap.size := by simp
    have r1 : (W.alloc (.cells #[.string ⟨#[115, 99, 97, 108, 101]⟩, .bool true, .bool false, .bool true] 72)).cell? ⟨w.heap.size, 0, none⟩ = some (.int .i64 6) := by rw [hb1'.cell (p := ⟨w.heap.size, 0, none⟩) hlt]; exact q1
    have r2 : (W.alloc (.cells #[.string ⟨#[115, 99, 97, 108, 101]⟩, .bool true, .bool false, .bool true] 72)).cell? ⟨w.heap.size, 1, none⟩ = some (.int .i64 x) := by rw [hb1'.cell (p := ⟨w.heap.size, 1, none⟩) hlt]; exact q2
    have r3 : (W.alloc (.cells #[.string ⟨#[115, 99, 97, 108, 101]⟩, .bool true, .bool false, .bool true] 72)).cell? ⟨w.heap.size, 2, none⟩ = some (.int .i64 y) := by rw [hb1'.cell (p := ⟨w.heap.size, 2, none⟩) hlt]; exact q3
    have r4 : (W.alloc (.cells #[.string ⟨#[115, 99, 97, 108, 101]⟩, .bool true, .bool false, .bool true] 72)).cell? ⟨w.heap.size, 3, none⟩ = some (.int .u64 z) := by rw [hb1'.cell (p := ⟨w.heap.size, 3, none⟩) hlt]; exact q4
    have hlt2 := Nat.lt_trans hlt hlt1
    go_upto_region 4 with fail
    generalize W.alloc (.cells #[.string ⟨#[115, 99, 97, 108, 101]⟩, .bool true, .bool false, .bool true] 72) = V at *
    clear s0 s1 s2 s3 q1 q2 q3 q4 hb1' hb0 hS0
    by_cases hy0 : y = 0
    · subst hy0
      by_cases hxr : x < 0 ∨ (i : Int) ≤ x
      · have Hx : Hid (x < 0 ∨ (i : Int) ≤ x) := hxr
        have HN : Hid (¬ okg i ⟨6, x, 0, z⟩) := by unfold Hid okg; simp only; omega
        go_wp2_with (first | (go_at_call_of 26 (Value.int .i64 x); refine (cAheadN _ _ _ Hx.out).mono ?_; rintro e w' ⟨rfl, hw⟩; have hw := hw.symm; subst hw))
        go_ret
        exact Gri.n HN.out hb1
      · have Hx : Hid (0 ≤ x ∧ x < (i : Int)) := ⟨by omega, by omega⟩
        have HY : Hid (okg i ⟨6, x, 0, z⟩) := .inr (.inr (.inl ⟨rfl, Hx.out, rfl⟩))
        go_wp2_with (first | (go_at_call_of 26 (Value.int .i64 x); refine (cAheadY _ _ _ Hx.out.1 Hx.out.2).mono ?_; rintro e w' ⟨rfl, hw⟩; have hw := hw.symm; subst hw))
        go_ret
        exact Gri.y HY.out hb1
    · have hby : (y == 0) = false := by rw [beq_eq_false_iff_ne]; exact hy0
      have hcy : (y != 0) = true := by rw [bne_iff_ne]; exact hy0
      have HN : Hid (¬ okg i ⟨6, x, y, z⟩) := by unfold Hid okg; simp only; omega
      go_wp2
      go_ret
      exact Gri.n HN.out hb1
end
end Go.Proofs.YtljlioglpaogdahDoor

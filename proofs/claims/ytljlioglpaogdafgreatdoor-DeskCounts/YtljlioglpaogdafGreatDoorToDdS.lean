/- strings.Join at one blank, off the shelf. · Package desk: tellNumbers, tellHandle, tellNumber. · strings.Split at a byte 10; package desk: linesOf, wordsOf; slices.DeleteFunc of texts off the shelf. -/
import Derived.Test.YtljlioglpaogdafGreatDoorShLd
import Derived.Test.YtljlioglpaogdafGreatDoorToDskN
import Derived.Shelf.Strings.OnBuilder
import Derived.Test.YtljlioglpaogdafGreatDoorToOpenC
import Derived.Test.YtljlioglpaogdafGreatDoorToParN
import Derived.Shelf.SlicesE.DeleteFunc
namespace Go.Proofs.YtljlioglpaogdafGreatDoor
set_option linter.unusedVariables false
set_option maxRecDepth 100000
set_option maxHeartbeats 8000000
section
open Crm Go.RowKit Go.Shelf
theorem ba_data {x y : ByteArray} (h : x.data.toList = y.data.toList) : x = y := by
  apply ByteArray.ext
  exact Array.ext' h
theorem jnw_tail (x0 : ByteArray) (r : List ByteArray) : ∀ k, k ≤ r.length → (jnw (x0 :: r) (k + 1)).data.toList = x0.data.toList ++ Lib.joinTail [32] ((r.map (·.data.toList)).take k)
  | 0, _ => by
    rw [jnw, if_pos rfl]
    have e : mt ++ tx (x0 :: r) 0 = x0 := by
      apply ba_data
      rw [ByteArray.data_append]
      simp [mt, tx]
    rw [e]
    simp [Lib.joinTail]
  | k + 1, hk => by
    have ih := jnw_tail x0 r k (by omega)
    have hy : r[k]? = some (r[k]'(by omega)) := List.getElem?_eq_getElem (by omega)
    have ht : tx (x0 :: r) (k + 1) = r[k]'(by omega) := by
      unfold tx
      rw [List.getD_eq_getElem?_getD, List.getElem?_cons_succ, hy]
      rfl
    rw [jnw, if_neg (by omega), Lib.joinTail_take_succ [32] (r.map (·.data.toList)) k (r[k]'(by omega)).data.toList (by rw [List.getElem?_map, hy]; rfl), ByteArray.data_append, ByteArray.data_append, Array.toList_append, Array.toList_append, ih, ht, List.append_assoc, List.append_assoc, List.append_assoc]
    rfl
theorem jnw_join (L : List ByteArray) : (⟨(Lib.join (L.map (·.data.toList)) [32]).toArray⟩ : ByteArray) = jnw L L.length := by
  cases L with
  | nil => rfl
  | cons x0 r =>
    apply ba_data
    rw [List.length_cons, jnw_tail x0 r r.length (Nat.le_refl _), List.map_cons, Lib.join_cons, List.take_of_length_le (by simp)]
theorem sJoin (a : Option Addr) (n c : Nat) (L : List ByteArray) (w : World) (h : RdT w a n c L) (hn : n ≤ 1000000) (hz : (jnw L n).size ≤ 100000000000) :
    Calls Tryz.prog 37 #[.slice a n c, .string ⟨#[32]⟩] w fun e w' => e = .returned (.string (jnw L n)) ∧ Below w.heap.size w w' := by
  by_cases h0 : n = 0
  · subst h0
    refine (show Calls Tryz.prog 37 #[.slice a 0 c, .string ⟨#[32]⟩] w _ from Any.strings_Join_none Tryz.lays156 Tryz.Builder_Extra_156 a c ⟨#[32]⟩ w).mono ?_
    rintro e w' ⟨rfl, rfl⟩
    exact ⟨rfl, Below.refl _ _⟩
  · obtain ⟨b, o, x, rfl, hb, _, _, _⟩ := h.one (show 0 < n by omega)
    have hl := h.len
    subst hl
    have hJ := jnw_join L
    have hc : ∀ (j : Nat) x, L[j]? = some x → w.cell? ⟨b, o + j, none⟩ = some (.string x) := fun j x hx => by
      have hj : j < L.length := (List.getElem?_eq_some_iff.1 hx).1
      have := h.cell _ rfl j hj
      rw [Addr.add_lit] at this
      rw [this]
      unfold tx
      rw [List.getD_eq_getElem?_getD, hx]
      rfl
    have hz2 : (Lib.join (L.map (·.data.toList)) [32]).length ≤ 140737488355328 := by
      have e : (Lib.join (L.map (·.data.toList)) [32]).length = (jnw L L.length).size := by
        rw [← hJ]
        simp [ByteArray.size]
      omega
    refine (show Calls Tryz.prog 37 #[.slice (some ⟨b, o, none⟩) L.length c, .string ⟨#[32]⟩] w _ from Any.strings_Join Tryz.lays156 Tryz.Builder_Extra_156 b o c L ⟨#[32]⟩ w hc hb (by omega) h.cap hz2).mono ?_
    rintro e w' ⟨rfl, hb⟩
    exact ⟨by rw [← hJ], hb⟩

def BlkW (w : World) (g : Nat) (L : List ByteArray) : Prop := w.heap[g]? = some (.cells (L.map Value.string).toArray 9 (0, 0))
theorem BlkW.lt {w : World} {g : Nat} {L : List ByteArray} (h : BlkW w g L) : g < w.heap.size := (Array.getElem?_eq_some_iff.1 h).1
theorem BlkW.cell {w : World} {g : Nat} {L : List ByteArray} (h : BlkW w g L) {i : Nat} (hi : i < L.length) : w.cell? ⟨g, i, none⟩ = some (.string (tx L i)) := by
  rw [cell_of_row w g i _ _ (0, 0) h]
  unfold tx
  simp [List.getElem?_eq_getElem hi]
theorem BlkW.frozen {w : World} {g : Nat} {L : List ByteArray} (h : BlkW w g L) (i : Nat) : w.frozen? ⟨g, i, none⟩ = false := frozen_of_row w g i _ _ h
theorem BlkW.set {w : World} {g : Nat} {L : List ByteArray} (h : BlkW w g L) (i : Nat) (v : ByteArray) : BlkW (w.setCell ⟨g, i, none⟩ (.string v)) g (L.set i v) := by
  have := heap_setCell_same w g i _ _ (.string v) h
  unfold BlkW
  rw [this]
  simp [List.map_set]
theorem BlkW.below {w w' : World} {g : Nat} {L : List ByteArray} (h : BlkW w g L) (hb : Below w.heap.size w w') : BlkW w' g L := by
  unfold BlkW
  rw [hb.block g h.lt]
  exact h
theorem BlkW.rd {w : World} {g : Nat} {L : List ByteArray} (h : BlkW w g L) {n : Nat} (hl : L.length = n) (hn : n ≤ 1000000) (hb : ∀ i, i < n → (tx L i).size ≤ 9223372036854775807) : RdT w (some ⟨g, 0, none⟩) n n L := by
  refine ⟨hl, Nat.le_refl _, by unfold maxLen; omega, by simp, hb, fun x hx i hi => ?_⟩
  obtain rfl := Option.some.inj hx
  rw [Addr.add_lit, Nat.zero_add]
  exact h.cell (by omega)
theorem BlkW.made {w : World} {base g n : Nat} (h : w.ownsRow base 9 1 (.slice (some ⟨g, 0, none⟩) n n) n (madeCells (Value.string ⟨#[]⟩).cells (n * 1)).toList) : BlkW w g (List.replicate n ⟨#[]⟩) := by
  rcases h.2 with ⟨h', _⟩ | ⟨g', cap', cur, h', _, hg, _, _, hs, htake⟩
  · simp at h'
  · simp only [Value.slice.injEq, Option.some.injEq, Addr.mk.injEq, and_true, true_and] at h'
    obtain ⟨rfl, rfl⟩ := h'
    have e : (Value.string ⟨#[]⟩).cells = #[Value.string ⟨#[]⟩] := rfl
    rw [e, Nat.mul_one, toList_madeCells_one] at htake
    unfold BlkW
    rw [hg]
    congr 2
    rw [List.take_of_length_le (by simp at hs; simp [hs])] at htake
    have : cur = (List.replicate n (Value.string ⟨#[]⟩)).toArray := by rw [← htake]
    rw [this]
    simp

def filt (f : Nat → ByteArray) (n k : Nat) : List ByteArray := (List.range n).map fun i => if i < k then f i else ⟨#[]⟩
theorem filt_len (f : Nat → ByteArray) (n k : Nat) : (filt f n k).length = n := by simp [filt]
theorem filt_zero (f : Nat → ByteArray) (n : Nat) : List.replicate n ⟨#[]⟩ = filt f n 0 := by
  apply List.ext_getElem (by simp [filt])
  intro i h1 h2
  simp [filt]
theorem filt_set {f : Nat → ByteArray} {n k : Nat} {v : ByteArray} (hv : v = f k) : (filt f n k).set k v = filt f n (k + 1) := by
  apply List.ext_getElem (by simp [filt])
  intro i h1 h2
  rw [List.getElem_set]
  by_cases e : k = i
  · subst e
    rw [if_pos rfl, hv]
    simp [filt]
  · rw [if_neg e]
    simp only [filt, List.getElem_map, List.getElem_range]
    by_cases h : i < k
    · rw [if_pos h, if_pos (by omega)]
    · rw [if_neg h, if_neg (by omega)]
theorem filt_tx (f : Nat → ByteArray) {n i : Nat} (h : i < n) : tx (filt f n n) i = f i := by
  unfold tx
  rw [List.getD_eq_getElem?_getD, List.getElem?_eq_getElem (by rw [filt_len]; exact h)]
  simp [filt, h]
theorem sdn_jnw (l : List Int) (n : Nat) : ∀ k, k ≤ n → sdn l k = jnw (filt (fun i => itb (l.getD i 0)) n n) k
  | 0, _ => rfl
  | k + 1, h => by rw [sdn, jnw, sdn_jnw l n k (by omega), filt_tx _ (show k < n by omega)]
end
section
open Crm Go.RowKit
theorem dTell (a : Option Addr) (n c : Nat) (l : List Int) (r : Int) (w : World) (h : Rd w a n c l) (hn : n ≤ 10000) (h0 : -9223372036854775808 ≤ r) (h1 : r ≤ 9223372036854775807) (hT : Tabs w) :
    Calls Tryz.prog 43 #[.slice a n c, .int .i64 r] w fun e w' => e = .returned (.string (sad l r)) ∧ Below w.heap.size w w' := by
  by_cases hr : r = 0
  · subst hr
    obtain ⟨i0, hi, hz0, hz1, hz2⟩ := info_parts infoStr
    have hlen := h.len
    have hcap := h.cap
    have hmax := h.max
    unfold maxLen at hmax
    have HE : Hid (sad l 0 = sdn l n) := by unfold Hid sad; rw [if_pos rfl, hlen]
    have HZ : Hid ((sdn l n).size ≤ 22 * n) := sdn_size h.bd n
    obtain ⟨f, HF⟩ : ∃ f : Nat → ByteArray, Hid (f = fun i => itb (l.getD i 0)) := ⟨_, rfl⟩
    have HJ : Hid (sdn l n = jnw (filt f n n) n) := by unfold Hid; rw [HF.out]; exact sdn_jnw l n n (Nat.le_refl _)
    go_enter Tryz.func43, Tryz.ntmps43
    go_wp2_with (at_make; refine wpList_make_full _ rfl _ _ 23 rfl w.heap.size 9 i0 (.string ⟨#[]⟩) 1 Tryz.underlying23 hi hz0 hz1 .i64 .i64 _ _ n rfl rfl (by omega) (by omega) (by rw [hz2]; omega) (by unfold maxLen; omega) (Nat.le_refl _) ?_; intro w2 hown hgrow)
    have hB2 : BlkW w2 w.heap.size (filt f n 0) := by rw [← filt_zero]; exact BlkW.made hown
    have hb2 : Below w.heap.size w w2 := (Below.refl _ _).grown hgrow (Nat.le_refl _) (by simp)
    clear hown hgrow
    go_loopw [17] (fun i wr => ∃ k : Nat, k ≤ n ∧ i = .int .i64 k ∧ BlkW wr w.heap.size (filt f n k) ∧ Below w.heap.size w wr) (fun i _ => n - (intOf i).toNat)
    case atStart => exact ⟨0, Nat.zero_le _, rfl, hB2, hb2⟩
    case round =>
      clear hB2 hb2
      obtain ⟨k, hk, rfl, hB, hbel⟩ := hrel
      have hs1 := hbel.size
      by_cases hlt : k < n
      · obtain ⟨b, o, x, rfl, hbb, HX, hx0, hx1, hc⟩ := (h.below hbel).one hlt
        have hlti : (k : Int) < (n : Int) := by omega
        have hk0 : (0 : Int) ≤ (k : Int) := by omega
        obtain ⟨u, HU⟩ : ∃ u, Hid (itb x = u) := ⟨_, rfl⟩
        have HV : Hid (u = f k) := by unfold Hid; rw [HF.out, ← HU.out]; show _ = itb (l.getD k 0); rw [HX.out]
        have hTr := hT.below hbel
        go_wp2_with fail
        refine (sFormatUint x _ hx0 hx1 hTr).mono ?_
        rintro e w5 ⟨rfl, hb5⟩
        rw [HU.out]
        have hB5 := hB.below hb5
        have hb6 := hbel.trans (hb5.mono hs1)
        have hcell := hB5.cell (i := k) (by rw [filt_len]; exact hlt)
        have hfz := hB5.frozen k
        have hlt5 := hB5.lt
        have hset := hB5.set k u
        rw [filt_set HV.out] at hset
        have Hset : Hid (BlkW _ _ _) := hset
        have Hb7 : Hid (Below w.heap.size w (w5.setCell ⟨w.heap.size, k, none⟩ (.string u))) := hb6.setCell (Nat.le_refl _) _
        clear hb5 hTr hbel hc hbb hB hB5 hset hb6
        go_wp2
        go_roundw
        case rel => exact ⟨k + 1, by omega, by go_num, Hset.out, Hb7.out⟩
        case measure => simp [intOf]; omega
      · obtain rfl : k = n := by omega
        have hnn : ¬ ((k : Int) < (k : Int)) := by omega
        have hr := hB.rd (filt_len f k k) (by omega) (fun i hi => by
          rw [filt_tx f hi, HF.out]
          have hd := getD_bd h.bd i
          have := itb_u64 hd.1 hd.2
          show (itb (l.getD i 0)).size ≤ _
          omega)
        have hz := HZ.out
        rw [HJ.out] at hz
        go_wp2_with fail
        refine (sJoin _ _ _ _ _ hr (by omega) (by omega)).mono ?_
        rintro e w5 ⟨rfl, hb5⟩
        have hb6 := hbel.trans (hb5.mono hs1)
        rw [← HJ.out, ← HE.out]
        obtain ⟨u, HU⟩ : ∃ u, Hid (sad l 0 = u) := ⟨_, rfl⟩
        rw [HU.out]
        clear hr hz hB hbel hb5
        go_wp2
        go_ret
        rw [HU.out]
        exact ⟨rfl, hb6⟩
  · have HE : Hid (sad l r = erB r) := if_neg hr
    have hrb : (r != 0) = true := by rw [bne_iff_ne]; exact hr
    clear hr
    go_enter Tryz.func43, Tryz.ntmps43
    go_wp2_with fail
    refine (dFail r _ h0 h1 hT).mono ?_
    rintro e w1 ⟨rfl, hb⟩
    go_wp2
    go_ret
    rw [HE.out]
    exact ⟨rfl, hb⟩

theorem dTellH (x r : Int) (w : World) (hx0 : 0 ≤ x) (hx1 : x ≤ 9223372036854775807) (h0 : -9223372036854775808 ≤ r) (h1 : r ≤ 9223372036854775807) (hT : Tabs w) :
    Calls Tryz.prog 45 #[.int .i64 x, .int .i64 r] w fun e w' => e = .returned (.string (sad [x] r)) ∧ Below w.heap.size w w' := by
  have hbA : Below w.heap.size w (w.alloc (.cells #[.int .u64 x] 77)) := (Below.refl _ _).alloc (Nat.le_refl _) _
  have r1 : Rd (w.alloc (.cells #[.int .u64 x] 77)) (some ⟨w.heap.size, 0, none⟩) 1 1 [x] := (Blk.lit1 w x).whole 1 rfl (by unfold maxLen; omega) (fun u hu => by rw [List.mem_singleton.1 hu]; omega)
  have hTA := hT.below hbA
  go_enter Tryz.func45, Tryz.ntmps45
  go_wp2_with fail
  generalize w.alloc (.cells #[.int .u64 x] 77) = wA at *
  refine (dTell _ _ _ [x] r _ r1 (by omega) h0 h1 hTA).mono ?_
  rintro e w1 ⟨rfl, hb⟩
  have hbw := hbA.trans (hb.mono hbA.size)
  go_wp2
  go_ret
  exact ⟨rfl, hbw⟩

theorem dTellN (x r : Int) (w : World) (hx0 : 0 ≤ x) (hx1 : x ≤ 18446744073709551615) (h0 : -9223372036854775808 ≤ r) (h1 : r ≤ 9223372036854775807) (hT : Tabs w) :
    Calls Tryz.prog 57 #[.int .u64 x, .int .i64 r] w fun e w' => e = .returned (.string (sad [x] r)) ∧ Below w.heap.size w w' := by
  have hbA : Below w.heap.size w (w.alloc (.cells #[.int .u64 x] 77)) := (Below.refl _ _).alloc (Nat.le_refl _) _
  have r1 : Rd (w.alloc (.cells #[.int .u64 x] 77)) (some ⟨w.heap.size, 0, none⟩) 1 1 [x] := (Blk.lit1 w x).whole 1 rfl (by unfold maxLen; omega) (fun u hu => by rw [List.mem_singleton.1 hu]; omega)
  have hTA := hT.below hbA
  go_enter Tryz.func57, Tryz.ntmps57
  go_wp2_with fail
  generalize w.alloc (.cells #[.int .u64 x] 77) = wA at *
  refine (dTell _ _ _ [x] r _ r1 (by omega) h0 h1 hTA).mono ?_
  rintro e w1 ⟨rfl, hb⟩
  have hbw := hbA.trans (hb.mono hbA.size)
  go_wp2
  go_ret
  exact ⟨rfl, hbw⟩
end
section
open Crm Go.RowKit Go.Shelf
theorem lns_cnt (s : ByteArray) : (lns s).length = s.data.toList.count 10 + 1 := count_pcs 10 s

theorem sSplitL (s : ByteArray) (w : World) (hs : s.size ≤ 100000) :
    Calls Tryz.prog 21 #[.string s, .string ⟨#[10]⟩] w fun e w' => e = .returned (.slice (some ⟨w.heap.size, 0, none⟩) (lns s).length (lns s).length) ∧ w' = w.alloc (.cells ((lns s).map Value.string).toArray 9) := by
  have hl := lns_cnt s
  have hcb : Lib.countB s ⟨#[10]⟩ = s.data.toList.count 10 := Lib.count_one 10 _
  have hcl : s.data.toList.count 10 ≤ s.size := by
    have := List.count_le_length (a := (10 : UInt8)) (l := s.data.toList)
    rwa [Array.length_toList] at this
  have hC : Calls Tryz.prog 9 #[.string s, .string ⟨#[10]⟩] w fun e w' => e = .returned (.int .i64 (Lib.countB s ⟨#[10]⟩)) ∧ w' = w := by
    rw [hcb]
    exact Any.strings_Count_one Tryz.lays138 s 10 w
  have hI : ∀ (x : ByteArray) (c : Array Value), x.size ≤ s.size → Calls Tryz.prog 20 #[.string x, .string ⟨#[10]⟩] (w.alloc (.cells c 9)) fun e w' => e = .returned (.int .i64 (Lib.indexB x ⟨#[10]⟩)) ∧ w' = w.alloc (.cells c 9) := fun x c _ => by
    have e : Lib.indexB x ⟨#[10]⟩ = Lib.indexByte x.data.toList 10 := Lib.index_one _ _
    rw [e]
    exact Any.strings_Index_one Tryz.lays143 x 10 _
  have hG := Any.strings_genSplit_core Tryz.lays221 infoS9 s ⟨#[10]⟩ 0 (-1) (s.data.toList.count 10 + 1) w (by omega) (by decide) (Nat.zero_le _) hI hC (by decide) (by decide) (by rw [if_pos (by decide), hcb]; omega)
  rw [Nat.add_sub_cancel, split_pcs 10 _ s rfl] at hG
  have e2 : Lib.cellsOf (pcs s (((10 : UInt8).toNat : Nat) : Int) s.size) (s.data.toList.count 10 + 1) = ((lns s).map Value.string).toArray := by
    rw [← hl]
    exact Lib.cellsOf_full _
  rw [e2] at hG
  have hG' : Calls Tryz.prog 33 #[.string s, .string ⟨#[10]⟩, .int .i64 0, .int .i64 (-1)] w fun e w' => e = .returned (.slice (some ⟨w.heap.size, 0, none⟩) (lns s).length (lns s).length) ∧ w' = w.alloc (.cells ((lns s).map Value.string).toArray 9) := by
    refine hG.mono ?_
    rintro e w' ⟨rfl, rfl⟩
    exact ⟨by rw [hl]; show Ending.returned (Value.slice _ (lns s).length _) = _; rw [hl], rfl⟩
  clear hG hI hC e2 hcb hcl hl
  go_enter Tryz.func21, Tryz.ntmps21
  go_wp2_with (go_at_call 33; refine hG'.mono ?_; rintro e w' ⟨rfl, hw⟩; rw [hw])
  go_ret
  exact ⟨rfl, rfl⟩

def Lnf (s : ByteArray) (w : World) (e : Ending) (w' : World) : Prop :=
  (((65536 < s.size ∨ 200 < (tln s).length) ∧ e = .returned (.tuple #[.slice none 0 0, .int .i64 2])) ∨
   (¬ (65536 < s.size ∨ 200 < (tln s).length) ∧ ∃ a c, e = .returned (.tuple #[.slice a (tln s).length c, .int .i64 0]) ∧ RdT w' a (tln s).length c (tln s))) ∧ Below w.heap.size w w'

theorem dLines (s : ByteArray) (w : World) (hs : s.size ≤ 9223372036854775807) :
    Calls Tryz.prog 10 #[.string s] w (Lnf s w) := by
  by_cases h65 : 65536 < s.size
  · have h65i : (65536 : Int) < (s.size : Int) := by omega
    have HD : Hid (65536 < s.size ∨ 200 < (tln s).length) := .inl h65
    go_enter Tryz.func10, Tryz.ntmps10
    go_wp2
    go_ret2
    exact ⟨.inl ⟨HD.out, rfl⟩, Below.refl _ _⟩
  have h65i : ¬ (65536 : Int) < (s.size : Int) := by omega
  have hll := lns_len s
  have hpl := pcs_len s 10 s.size
  have hlb : (lns s).length ≤ 70000 := by have : (lns s).length ≤ s.size + 1 := hpl.2; omega
  have hr := rdT_alloc w (lns s) (by omega) (fun x hx => by have := lns_last s x hx; omega)
  have hb1 : Below w.heap.size w (w.alloc (.cells ((lns s).map Value.string).toArray 9)) := (Below.refl _ _).alloc (Nat.le_refl _) _
  go_enter Tryz.func10, Tryz.ntmps10
  go_wp2_with fail
  refine (sSplitL s w (by omega)).mono ?_
  rintro e w1 ⟨rfl, hw1⟩
  rw [← hw1] at hr hb1
  clear hw1
  rw [hll] at hr hlb ⊢
  obtain ⟨m, HM⟩ : ∃ m, Hid (lnn s = m) := ⟨_, rfl⟩
  rw [HM.out] at hr hlb ⊢
  obtain ⟨b, o, x, eb, hbb, HX, hxs, hcx⟩ := hr.one (show m < m + 1 by omega)
  simp only [Option.some.injEq, Addr.mk.injEq, and_true] at eb
  obtain ⟨rfl, rfl⟩ := eb
  rw [Nat.zero_add] at hcx
  have hm0 : (0 : Int) ≤ (m : Int) := by omega
  obtain ⟨g, HG⟩ : ∃ g, Hid (w.heap.size = g) := ⟨_, rfl⟩
  by_cases hx0 : x = mt
  · have HT : Hid (tln s = (lns s).take m) := by unfold Hid tln; rw [HM.out, HX.out, if_pos hx0]
    have hr3 := hr.tke (show m ≤ m + 1 by omega)
    have HTL : Hid ((tln s).length = m) := by unfold Hid; rw [HT.out, List.length_take, hll, HM.out]; omega
    rw [HG.out] at hr hr3 hbb hcx ⊢
    have hsl : ∀ W, (Instr.sliceAt 23 (.slice (some ⟨g, 0, none⟩) (m + 1) (m + 1)) none (some (.int .i64 (m : Int))) none).run Tryz.prog W = .ok (.slice (some ⟨g, 0, none⟩) m (m + 1)) W := fun W => run_subh Tryz.underlying23 infoStr1 (some ⟨g, 0, none⟩) (m + 1) (m + 1) m (fun e => by simp at e) (by omega) W
    subst hx0
    unfold mt at hcx
    by_cases h200 : 200 < m
    · have h2i : (200 : Int) < (m : Int) := by omega
      have HD : Hid (65536 < s.size ∨ 200 < (tln s).length) := .inr (by rw [HTL.out]; exact h200)
      clear hpl hll hr hr3
      go_wp2
      go_ret2
      exact ⟨.inl ⟨HD.out, rfl⟩, hb1⟩
    · have h2i : ¬ (200 : Int) < (m : Int) := by omega
      have HD : Hid (¬ (65536 < s.size ∨ 200 < (tln s).length)) := by unfold Hid; rw [HTL.out]; omega
      clear hpl hll hr
      go_wp2
      go_ret2
      exact ⟨.inr ⟨HD.out, some ⟨g, 0, none⟩, m + 1, by rw [HTL.out]; rfl, by rw [HTL.out, HT.out]; exact hr3⟩, hb1⟩
  · have HT : Hid (tln s = lns s) := by unfold Hid tln; rw [HM.out, HX.out, if_neg hx0]
    have HTL : Hid ((tln s).length = m + 1) := by unfold Hid; rw [HT.out, hll, HM.out]
    have hxe := isE_no (r := x) (fun e => hx0 (size_zero e))
    by_cases h200 : 200 < m + 1
    · have h2i : (200 : Int) < ((m : Int) + 1) := by omega
      have HD : Hid (65536 < s.size ∨ 200 < (tln s).length) := .inr (by rw [HTL.out]; exact h200)
      clear hpl hll hr hx0
      go_wp2
      go_ret2
      exact ⟨.inl ⟨HD.out, rfl⟩, hb1⟩
    · have h2i : ¬ (200 : Int) < ((m : Int) + 1) := by omega
      have HD : Hid (¬ (65536 < s.size ∨ 200 < (tln s).length)) := by unfold Hid; rw [HTL.out]; omega
      clear hpl hll hx0
      go_wp2
      go_ret2
      exact ⟨.inr ⟨HD.out, some ⟨w.heap.size, 0, none⟩, m + 1, by rw [HTL.out]; rfl, by rw [HTL.out, HT.out]; exact hr⟩, hb1⟩

theorem dEmpty (x : ByteArray) (w : World) :
    Calls Tryz.prog 23 #[.string x] w fun e w' => e = .returned (.bool (x.size == 0)) ∧ ∃ q, w' = w.drewN q := by
  by_cases hx : x.size = 0
  · obtain rfl := size_zero hx
    go_enter Tryz.func23, Tryz.ntmps23
    go_wp2
    go_ret
    exact ⟨rfl, 0, rfl⟩
  · have hE := isE_no hx
    have HB : Hid ((x.size == 0) = false) := beq_eq_false_iff_ne.2 hx
    clear hx
    go_enter Tryz.func23, Tryz.ntmps23
    go_wp2
    go_ret
    rw [HB.out]
    exact ⟨rfl, 0, rfl⟩
theorem putRow_below {α : Type} [Inhabited α] {enc : α → Value} {w0 w : World} {g o q : Nat} {d : Array α} (h : Below w0.heap.size w0 w) (hg : w0.heap.size ≤ g) : Below w0.heap.size w0 (Sort.putRow enc (Sort.ahead w q) g o d) := by
  refine ⟨h.os, h.tape, h.output, by rw [Sort.size_putRow]; exact h.size, fun i hi => ?_⟩
  rw [← h.block i hi]
  show ((Sort.mapBlock (Sort.ahead w q) g (Sort.putCells enc o d)).heap)[i]? = w.heap[i]?
  unfold Sort.mapBlock
  rw [Array.getElem?_modify, if_neg (by omega)]
  rfl
theorem wrd_filter (s : ByteArray) : ((wds s).filter fun x => !(x.size == 0)) = wrd s := by
  unfold wrd wds
  congr
theorem enters_Empty : ∀ args w, (callFunc 23 args).run Tryz.prog w = .ok (.enter 23 args) w := enters_of Tryz.func23 (by kernel_rfl) rfl
theorem zeroStr : ∀ w, (zeroValue 9).run Tryz.prog w = .ok (.string ⟨#[]⟩) w := Tryz.zeroValue9

theorem dWords (s : ByteArray) (w : World) (hs : s.size ≤ 100000) :
    Calls Tryz.prog 12 #[.string s] w fun e w' => ∃ a c, e = .returned (.slice a (wrd s).length c) ∧ RdT w' a (wrd s).length c (wrd s) ∧ Below w.heap.size w w' := by
  obtain ⟨W, HW⟩ : ∃ W, Hid (w.alloc (.cells ((wds s).map Value.string).toArray 9) = W) := ⟨_, rfl⟩
  have hb1 : Below w.heap.size w W := by rw [← HW.out]; exact (Below.refl _ _).alloc (Nat.le_refl _) _
  have hrow : W.heap[w.heap.size]? = some (.cells ((wds s).map Value.string).toArray 9 (0, 0)) := by rw [← HW.out]; exact heap_alloc_new w _
  have hwl := pcs_len s 32 s.size
  have hlb : (wds s).length ≤ 100001 := by have : (wds s).length ≤ s.size + 1 := hwl.2; omega
  have hH : Sort.Holds Value.string W w.heap.size 0 (wds s).toArray := fun j hj => by
    have hj' : j < (wds s).length := by simpa using hj
    refine ⟨?_, frozen_of_row W w.heap.size _ _ _ hrow⟩
    rw [cell_of_row W w.heap.size _ _ _ (0, 0) hrow, Nat.zero_add]
    simp [getElem!_pos, hj']
  have hD := AnyE.slices_DeleteFunc Tryz.laysH10 Value.string (fun _ => rfl) (fun x => x.size == 0) 23 #[] enters_Empty ⟨#[]⟩ zeroStr w.heap.size 0 (wds s).length (wds s).toArray W (fun W' x _ => dEmpty x W') (fun n os dk x _ => dEmpty x _) hH (by simp; omega) (by simp)
  have hD' : Calls Tryz.prog 24 #[.slice (some ⟨w.heap.size, 0, none⟩) (wds s).length (wds s).length, .func (.func 23) #[] #[]] W fun e w' => e = .returned (.slice (some ⟨w.heap.size, 0, none⟩) (wrd s).length (wds s).length) ∧ RdT w' (some ⟨w.heap.size, 0, none⟩) (wrd s).length (wds s).length (wrd s) ∧ Below w.heap.size w w' := by
    refine (show Calls Tryz.prog 24 #[.slice (some ⟨w.heap.size, 0, none⟩) (wds s).length (wds s).length, .func (.func 23) #[] #[]] W _ from hD).mono ?_
    rintro e w' ⟨rfl, q, rfl⟩
    have hF : ((wds s).toArray.toList.filter fun x => !(x.size == 0)) = wrd s := wrd_filter s
    rw [hF]
    have hfl : (wrd s).length ≤ (wds s).length := by rw [← wrd_filter s]; exact List.length_filter_le _ _
    refine ⟨rfl, ⟨rfl, hfl, by unfold maxLen; omega, by simp, fun i hi => ?_, fun x hx i hi => ?_⟩, putRow_below hb1 (Nat.le_refl _)⟩
    · have := wrd_size s (tx (wrd s) i) (by unfold tx; rw [List.getD_eq_getElem?_getD, List.getElem?_eq_getElem hi]; exact List.getElem_mem _)
      omega
    · obtain rfl := Option.some.inj hx
      rw [Addr.add_lit]
      have hc := Sort.cell?_putRow Value.string (Sort.ahead W q) w.heap.size 0 (wds s).toArray (((wrd s) ++ List.replicate ((wds s).toArray.size - (wrd s).length) (⟨#[]⟩ : ByteArray)).toArray) hH (by simp; omega) i (by simp; omega)
      rw [hc]
      congr 2
      rw [getElem!_pos _ i (by simp; omega)]
      simp only [List.getElem_toArray]
      rw [List.getElem_append_left hi]
      unfold tx
      rw [List.getD_eq_getElem?_getD, List.getElem?_eq_getElem hi]
      rfl
  clear hD hH hrow hwl hlb
  go_enter Tryz.func12, Tryz.ntmps12
  go_wp2_with fail
  refine (sSplit s w hs).mono ?_
  rintro e w1 ⟨rfl, hw1⟩
  rw [HW.out] at hw1
  subst hw1
  go_wp2_with fail
  refine hD'.mono ?_
  rintro e w2 ⟨rfl, hr2, hb2⟩
  clear hD' hb1
  go_wp2
  go_ret
  exact ⟨_, _, rfl, hr2, hb2⟩
end
end Go.Proofs.YtljlioglpaogdafGreatDoor

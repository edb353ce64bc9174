/- The first piece of a text and the rest: plain facts. · strings.Split at one blank, strings.Cut at a byte 10: strings.Index, strings.Count at one byte and genSplit off the shelf. · Package circuit: readLine. · Gates that are read, their numbers told by their rests: plain facts; the first line of a text and the rest. · Package circuit: Parse. -/
import Derived.Test.YtljlioglpaogdacDoorToBackN
import Derived.Lib.Bytealg
import Derived.Lib.IndexLaws
import Derived.Lib.IndexBytes
import Derived.Lib.SplitLaws
import Derived.Lib.Strings
import Derived.Test.YtljlioglpaogdacDoorShLay
import Derived.Deep.RegionWith
import Derived.BigRegion
import Derived.Test.YtljlioglpaogdacDoorRGateC
import Derived.Test.YtljlioglpaogdacDoorRNumC
import Derived.Deep.RegionLaw
import Derived.Test.YtljlioglpaogdacDoorToSameCC
namespace Go.Proofs.YtljlioglpaogdacDoor
set_option linter.unusedVariables false
set_option maxRecDepth 100000
set_option maxHeartbeats 8000000
section
open Crm
theorem pst_pre {b : Int} {c : UInt8} (A P : List (List UInt8)) (hP : P ≠ []) : pst b (A ++ P) c = A ++ pst b P c := by
  rcases List.eq_nil_or_concat P with e | ⟨Q, h, rfl⟩
  · exact absurd e hP
  · by_cases hc : (c.toNat : Int) = b
    · rw [pst_yes _ hc, pst_yes _ hc, List.append_assoc]
    · rw [List.concat_eq_append, ← List.append_assoc, pst_no _ _ hc, pst_no _ _ hc, List.append_assoc]
theorem pst_ne {b : Int} {c : UInt8} (P : List (List UInt8)) (hP : P ≠ []) : pst b P c ≠ [] := by
  unfold pst
  split
  · simp
  · intro e
    have := congrArg List.length e
    simp at this
    exact hP this
theorem pll_pre {b : Int} : ∀ (l : List UInt8) (A P : List (List UInt8)), P ≠ [] → l.foldl (pst b) (A ++ P) = A ++ l.foldl (pst b) P
  | [], _, _, _ => rfl
  | c :: l, A, P, hP => by
    rw [List.foldl_cons, List.foldl_cons, pst_pre A P hP]
    exact pll_pre l A _ (pst_ne P hP)
/-- Where a byte first is. -/
theorem ixb (c : UInt8) : ∀ l : List UInt8, (Lib.indexByte l c = -1 ∧ ∀ d ∈ l, (d.toNat : Int) ≠ (c.toNat : Int)) ∨ ∃ xs ys, l = xs ++ c :: ys ∧ (∀ d ∈ xs, (d.toNat : Int) ≠ (c.toNat : Int)) ∧ Lib.indexByte l c = (xs.length : Int)
  | [] => .inl ⟨rfl, fun d hd => by simp at hd⟩
  | d :: l => by
    by_cases e : d = c
    · subst e
      exact .inr ⟨[], l, rfl, fun d hd => by simp at hd, by simp [Lib.indexByte]⟩
    · have hne : (d.toNat : Int) ≠ (c.toNat : Int) := fun e' => e (UInt8.toNat_inj.1 (by omega))
      have hb : (d == c) = false := by rw [beq_eq_false_iff_ne]; exact e
      rcases ixb c l with ⟨h1, h2⟩ | ⟨xs, ys, h1, h2, h3⟩
      · refine .inl ⟨by simp [Lib.indexByte, hb, h1], fun x hx => ?_⟩
        rcases List.mem_cons.1 hx with rfl | hx
        · exact hne
        · exact h2 x hx
      · refine .inr ⟨d :: xs, ys, by rw [h1]; rfl, fun x hx => ?_, ?_⟩
        · rcases List.mem_cons.1 hx with rfl | hx
          · exact hne
          · exact h2 x hx
        · simp [Lib.indexByte, hb, h3]
theorem ext_list (s : ByteArray) (a b : Nat) : s.extract a b = toB ((s.data.toList.drop a).take (b - a)) := Lib.extract_eq s a b
/-- A text has the byte or hasn't. -/
theorem cut_cases (s : ByteArray) (c : UInt8) : (Lib.indexByte s.data.toList c = -1 ∧ pcs s (c.toNat : Int) s.size = [s]) ∨
    ∃ j, Lib.indexByte s.data.toList c = ((j : Nat) : Int) ∧ j < s.size ∧ pcs s (c.toNat : Int) s.size = s.extract 0 j :: pcs (s.extract (j + 1) s.size) (c.toNat : Int) (s.extract (j + 1) s.size).size := by
  obtain ⟨l, rfl⟩ : ∃ l, s = toB l := ⟨_, (toB_list s).symm⟩
  have hl : (toB l).data.toList = l := by simp [toB]
  rw [hl, pcs_all]
  rcases ixb c l with ⟨h1, h2⟩ | ⟨xs, ys, rfl, h2, h3⟩
  · refine .inl ⟨h1, ?_⟩
    have := pll_run l [] [] h2
    simp only [List.nil_append] at this
    unfold pll
    rw [this]
    rfl
  · refine .inr ⟨xs.length, h3, by rw [toB_size]; simp, ?_⟩
    have e1 : (toB (xs ++ c :: ys)).extract 0 xs.length = toB xs := by rw [ext_list, hl]; simp
    have e2 : (toB (xs ++ c :: ys)).extract (xs.length + 1) (toB (xs ++ c :: ys)).size = toB ys := by
      rw [ext_list, hl, toB_size]
      have : (xs ++ c :: ys).drop (xs.length + 1) = ys := by
        rw [List.drop_append]
        simp
      rw [this, List.take_of_length_le (by simp; omega)]
    rw [e1, e2, pcs_all]
    have e3 : pll (c.toNat : Int) (xs ++ c :: ys) = xs :: pll (c.toNat : Int) ys := by
      unfold pll
      have hc := pll_cut (b := (c.toNat : Int)) (c := c) xs [] h2 rfl
      simp only [List.nil_append] at hc
      rw [show xs ++ c :: ys = (xs ++ [c]) ++ ys by simp, List.foldl_append, hc, pll_pre ys [xs] [[]] (by simp)]
      rfl
    rw [e3]
    rfl
/-- strings.Split tells the pieces. -/
theorem split_pcs (c : UInt8) : ∀ (k : Nat) (s : ByteArray), s.data.toList.count c = k → Lib.splitB ⟨#[c]⟩ 0 k s = pcs s (c.toNat : Int) s.size
  | k, s, hk => by
    have hix : Lib.indexB s ⟨#[c]⟩ = Lib.indexByte s.data.toList c := Lib.index_one _ _
    rcases cut_cases s c with ⟨h1, h2⟩ | ⟨j, h1, hj, h2⟩
    · rw [h2, Lib.splitB_miss _ _ _ _ (by rw [hix]; exact h1)]
    · have hrest : (s.extract (j + 1) s.size).data.toList = s.data.toList.drop (j + 1) := by
        rw [Lib.extract_data, List.take_of_length_le]
        rw [List.length_drop, Array.length_toList]
        exact Nat.le_refl _
      obtain ⟨hat, hbe⟩ := Lib.indexByte_some h1
      have hcount : s.data.toList.count c = (s.data.toList.drop (j + 1)).count c + 1 := by
        have e := List.take_append_drop (j + 1) s.data.toList
        have hjl : j < s.data.toList.length := (List.getElem?_eq_some_iff.1 hat).1
        have e2 : (s.data.toList.take (j + 1)).count c = 1 := by
          rw [List.take_add_one, hat, List.count_append]
          have : (s.data.toList.take j).count c = 0 := by
            rw [List.count_eq_zero]
            intro hm
            obtain ⟨i, hi, he⟩ := List.getElem_of_mem hm
            have hij : i < j := by simp at hi; omega
            refine hbe i hij ?_
            rw [List.getElem?_eq_getElem (by simp at hi; omega)]
            simpa using he
          rw [this]
          simp
        have := congrArg (List.count c) e
        rw [List.count_append, e2] at this
        omega
      obtain ⟨k', rfl⟩ : ∃ k', k = k' + 1 := ⟨k - 1, by omega⟩
      have ih := split_pcs c k' (s.extract (j + 1) s.size) (by rw [hrest]; omega)
      have hh := Lib.splitB_hit ⟨#[c]⟩ 0 k' s j (by rw [hix]; exact h1)
      have hsz : (⟨#[c]⟩ : ByteArray).size = 1 := rfl
      rw [h2, hh, hsz, ih]
      rfl
end
section
open Crm Go.RowKit Go.Shelf
theorem infoS9 : (Tryd.prog.info? 9).map (fun i => (i.zero, i.size, i.bytes)) = some (some (.string ByteArray.empty), 1, 16) := by kernel_rfl
theorem count_pcs (c : UInt8) (s : ByteArray) : (pcs s (c.toNat : Int) s.size).length = s.data.toList.count c + 1 := by
  rw [← split_pcs c _ s rfl]
  refine Lib.splitB_all ⟨#[c]⟩ (Nat.le_refl 1) 0 _ s ?_
  exact Lib.count_one c _
theorem wds_len (s : ByteArray) : (wds s).length = s.data.toList.count 32 + 1 := count_pcs 32 s

theorem sSplit (s : ByteArray) (w : World) (hs : s.size ≤ 100000) :
    Calls Tryd.prog 39 #[.string s, .string ⟨#[32]⟩] w fun e w' => e = .returned (.slice (some ⟨w.heap.size, 0, none⟩) (wds s).length (wds s).length) ∧ w' = w.alloc (.cells ((wds s).map Value.string).toArray 9) := by
  have hl := wds_len s
  have hcb : Lib.countB s ⟨#[32]⟩ = s.data.toList.count 32 := Lib.count_one 32 _
  have hcl : s.data.toList.count 32 ≤ s.size := by
    have := List.count_le_length (a := (32 : UInt8)) (l := s.data.toList)
    rwa [Array.length_toList] at this
  have hC : Calls Tryd.prog 83 #[.string s, .string ⟨#[32]⟩] w fun e w' => e = .returned (.int .i64 (Lib.countB s ⟨#[32]⟩)) ∧ w' = w := by
    rw [hcb]
    exact Any.strings_Count_one Tryd.lays138 s 32 w
  have hI : ∀ (x : ByteArray) (c : Array Value), x.size ≤ s.size → Calls Tryd.prog 84 #[.string x, .string ⟨#[32]⟩] (w.alloc (.cells c 9)) fun e w' => e = .returned (.int .i64 (Lib.indexB x ⟨#[32]⟩)) ∧ w' = w.alloc (.cells c 9) := fun x c _ => by
    have e : Lib.indexB x ⟨#[32]⟩ = Lib.indexByte x.data.toList 32 := Lib.index_one _ _
    rw [e]
    exact Any.strings_Index_one Tryd.lays143 x 32 _
  have hG := Any.strings_genSplit_core Tryd.lays221 infoS9 s ⟨#[32]⟩ 0 (-1) (s.data.toList.count 32 + 1) w (by omega) (by decide) (Nat.zero_le _) hI hC (by decide) (by decide) (by rw [if_pos (by decide), hcb]; omega)
  rw [Nat.add_sub_cancel, split_pcs 32 _ s rfl] at hG
  have e2 : Lib.cellsOf (pcs s (((32 : UInt8).toNat : Nat) : Int) s.size) (s.data.toList.count 32 + 1) = ((wds s).map Value.string).toArray := by
    rw [← hl]
    exact Lib.cellsOf_full _
  rw [e2] at hG
  have hG' : Calls Tryd.prog 60 #[.string s, .string ⟨#[32]⟩, .int .i64 0, .int .i64 (-1)] w fun e w' => e = .returned (.slice (some ⟨w.heap.size, 0, none⟩) (wds s).length (wds s).length) ∧ w' = w.alloc (.cells ((wds s).map Value.string).toArray 9) := by
    refine hG.mono ?_
    rintro e w' ⟨rfl, rfl⟩
    exact ⟨by rw [hl]; show Ending.returned (Value.slice _ (wds s).length _) = _; rw [hl], rfl⟩
  clear hG hI hC e2 hcb hcl hl
  go_enter Tryd.func39, Tryd.ntmps39
  go_wp2_with (go_at_call 60; refine hG'.mono ?_; rintro e w' ⟨rfl, hw⟩; rw [hw])
  go_ret
  exact ⟨rfl, rfl⟩
/-- The pieces are read. -/
theorem rdT_alloc (w : World) (L : List ByteArray) (hl : L.length ≤ 200000) (hb : ∀ x ∈ L, x.size ≤ 9223372036854775807) : RdT (w.alloc (.cells (L.map Value.string).toArray 9)) (some ⟨w.heap.size, 0, none⟩) L.length L.length L := by
  refine ⟨rfl, Nat.le_refl _, by unfold maxLen; omega, by simp, fun i hi => ?_, fun x hx i hi => ?_⟩
  · unfold tx
    rw [List.getD_eq_getElem?_getD, List.getElem?_eq_getElem hi]
    exact hb _ (List.getElem_mem _)
  · obtain rfl := Option.some.inj hx
    rw [Addr.add_lit, Nat.zero_add, World.cell?_alloc_at _ _ _ _ rfl, List.getElem?_toArray, List.getElem?_map, List.getElem?_eq_getElem hi]
    unfold tx
    rw [List.getD_eq_getElem?_getD, List.getElem?_eq_getElem hi]
    rfl

theorem sCutN (s : ByteArray) (w : World) (h : Lib.indexByte s.data.toList 10 = -1) :
    Calls Tryd.prog 16 #[.string s, .string ⟨#[10]⟩] w fun e w' => e = .returned (.tuple #[.string s, .string ⟨#[]⟩, .bool false]) ∧ Below w.heap.size w w' := by
  have hI : ∀ W, Calls Tryd.prog 59 #[.string s, .string ⟨#[10]⟩] W fun e w' => e = .returned (.int .i64 (-1)) ∧ w' = W := fun W => by
    rw [← h]
    exact Any.stringslite_Index_one Tryd.lays219 s 10 W
  have hC : Calls Tryd.prog 38 #[.string s, .string ⟨#[10]⟩] w fun e w' => e = .returned (.tuple #[.string s, .string ⟨#[]⟩, .bool false]) ∧ Below w.heap.size w w' := by
    go_enter Tryd.func38, Tryd.ntmps38
    go_wp2_with (go_at_call 59; refine (hI _).mono ?_; rintro e w' ⟨rfl, hw⟩; have hw := hw.symm; subst hw)
    go_ret3
    exact ⟨rfl, Below.refl _ _⟩
  go_enter Tryd.func16, Tryd.ntmps16
  go_wp2_with (go_at_call 38; refine hC.mono ?_; rintro e w' ⟨rfl, hb⟩)
  go_ret3
  exact ⟨rfl, hb⟩
theorem sCutY (s : ByteArray) (j : Nat) (w : World) (h : Lib.indexByte s.data.toList 10 = (j : Int)) (hj : j < s.size) (hs : s.size ≤ 100000) :
    Calls Tryd.prog 16 #[.string s, .string ⟨#[10]⟩] w fun e w' => e = .returned (.tuple #[.string (s.extract 0 j), .string (s.extract (j + 1) s.size), .bool true]) ∧ Below w.heap.size w w' := by
  have hI : ∀ W, Calls Tryd.prog 59 #[.string s, .string ⟨#[10]⟩] W fun e w' => e = .returned (.int .i64 (j : Int)) ∧ w' = W := fun W => by
    rw [← h]
    exact Any.stringslite_Index_one Tryd.lays219 s 10 W
  have hC : Calls Tryd.prog 38 #[.string s, .string ⟨#[10]⟩] w fun e w' => e = .returned (.tuple #[.string (s.extract 0 j), .string (s.extract (j + 1) s.size), .bool true]) ∧ Below w.heap.size w w' := by
    have c1 : (0 : Int) ≤ ↑j := by omega
    have c2 : (↑j : Int) ≤ ↑s.size := by omega
    have c4 : (↑j + 1 : Int) ≤ ↑s.size := by omega
    have c5 : (0 : Int) ≤ ↑j + 1 := by omega
    go_enter Tryd.func38, Tryd.ntmps38
    go_wp2_with (go_at_call 59; refine (hI _).mono ?_; rintro e w' ⟨rfl, hw⟩; have hw := hw.symm; subst hw)
    go_region
    go_wp2
    go_ret3
    exact ⟨rfl, (Below.refl _ _).drew⟩
  go_enter Tryd.func16, Tryd.ntmps16
  go_wp2_with (go_at_call 38; refine hC.mono ?_; rintro e w' ⟨rfl, hb⟩)
  go_ret3
  exact ⟨rfl, hb⟩
end
section
open Crm Go.RowKit
theorem infoS1r : (Tryd.prog.info? 9).map (·.size) = some 1 := by kernel_rfl
theorem outB_listR : outB.toList = [111, 117, 116] := by decide +kernel
/-- What readLine does: a gate more, an out more, or the line can't stand there. -/
def Rln (t : ByteArray) (B gc n m : Nat) (ag : Option Addr) (cg : Nat) (ao : Option Addr) (co : Nat) (G : List Gt) (O : List Int) (w : World) (e : Ending) (w' : World) : Prop :=
  ((∃ g a' c', Lng t g ∧ O = [] ∧ e = .returned (.bool true) ∧ Crd w' B gc a' (n + 1) c' ao m co (G ++ [nmg g]) O) ∨
   (∃ x a' c', Lno t x ∧ e = .returned (.bool true) ∧ Crd w' B gc ag n cg a' (m + 1) c' G (O ++ [x])) ∨
   (Nok t O ∧ e = .returned (.bool false))) ∧ Below B w w'
theorem nbl_at {L : List ByteArray} {k i : Nat} (h : i < k) : (nbl L k).getD i 0 = dgn (tx L i) (tx L i).size := by simp [nbl, h]
theorem nbl_bd {L : List ByteArray} {k : Nat} (h : okn L k) : ∀ v ∈ nbl L k, 0 ≤ v ∧ v ≤ 9999999999 := fun v hv => by
  obtain ⟨i, hi, rfl⟩ := List.mem_map.1 hv
  exact okd_bd (h i (List.mem_range.1 hi))
theorem gol_gof {k : Nat} {t : ByteArray} (h1 : 1 ≤ k) (h7 : k < 7) : gol k (nbl (ags t) (arn k)) = nmg (gof k t) := by
  have n0 : nm 0 = 0 := rfl
  rcases arn_of h1 h7 with ⟨rfl, e⟩ | ⟨rfl, e⟩ | ⟨rfl, e⟩ | ⟨h3, e⟩
  · rw [e]
    unfold gol gof nmg
    rw [if_pos rfl, if_pos rfl, nbl_at (by omega)]
    simp only [n0]
    rfl
  · rw [e]
    unfold gol gof nmg
    rw [if_neg (by omega), if_pos rfl, if_neg (by omega), if_pos rfl, nbl_at (by omega)]
    rfl
  · rw [e]
    unfold gol gof nmg
    rw [if_neg (by omega), if_neg (by omega), if_pos rfl, if_neg (by omega), if_neg (by omega), if_pos rfl, nbl_at (by omega), nbl_at (by omega)]
    rfl
  · rw [e]
    unfold gol gof nmg
    rw [if_neg (by omega), if_neg (by omega), if_neg (by omega), if_neg (by omega), if_neg (by omega), if_neg (by omega), nbl_at (by omega), nbl_at (by omega)]
    simp only [n0]
    rfl
/-- A line whose word is a kind's. -/
theorem lng_of {t : ByteArray} {k : Nat} (h1 : 1 ≤ k) (h7 : k < 7) (hx : shw k = tx (wds t) 0) (hl : (ags t).length = arn k) (ho : okn (ags t) (arn k)) : Lng t (gof k t) := ⟨k, ⟨h1, h7⟩, hx.symm, hl, ho, rfl⟩
/-- A line whose word is no out and no kind of as many numbers. -/
theorem nok_gate {t : ByteArray} {O : List Int} {k : Nat} (ho : tx (wds t) 0 ≠ outB) (hl : (ags t).length = k) (h : ∀ j, 1 ≤ j → j < 7 → shw j = tx (wds t) 0 → k ≠ arn j) : Nok t O := by
  rintro (⟨g, ⟨j, hj, e, e2, _⟩, _⟩ | ⟨x, e, _⟩)
  · exact h j hj.1 hj.2 e.symm (by rw [← hl, e2])
  · exact ho e

theorem cReadLine (B gc : Nat) (t : ByteArray) (ag : Option Addr) (n cg : Nat) (ao : Option Addr) (m co : Nat) (G : List Gt) (O : List Int) (w : World) (hC : Crd w B gc ag n cg ao m co G O) (hBg : B ≤ gc) (hS : Shp w) (ht : t.size ≤ 2048) (hn : n ≤ 3000) (hm : m ≤ 3000) (hob : ∀ x ∈ O, 0 ≤ x ∧ x ≤ 9999999999) :
    Calls Tryd.prog 17 #[.pointer (some ⟨gc, 0, none⟩), .string t] w fun e w' => Rln t B gc n m ag cg ao co G O w e w' := by
  have hwl := (pcs_len t 32 t.size)
  obtain ⟨k, hk⟩ : ∃ k, (wds t).length = k + 1 := ⟨(wds t).length - 1, by unfold wds; omega⟩
  have hkb : k ≤ 2048 := by have := hwl.2; unfold wds at hk; omega
  have HAL : Hid ((ags t).length = k) := by unfold Hid ags; rw [List.length_drop, hk]; rfl
  have HW : Hid ((wds t).length = k + 1) := hk
  have hgcl := hC.box.lt
  have hBw : B ≤ w.heap.size := by omega
  have hRT := rdT_alloc w (wds t) (by omega) (fun x hx => by have := pcs_size t 32 t.size x hx; omega)
  have hb1 : Below w.heap.size w (w.alloc (.cells ((wds t).map Value.string).toArray 9)) := (Below.refl _ _).alloc (Nat.le_refl _) _
  have HOB : Hid (∀ x ∈ O, 0 ≤ x ∧ x ≤ 9999999999) := hob
  rw [hk] at hRT
  clear hob hwl
  go_enter Tryd.func17, Tryd.ntmps17
  go_wp2_with fail
  refine (sSplit t w (by omega)).mono ?_
  rintro e w1 ⟨rfl, hw1⟩
  rw [hk]
  rw [← hw1] at hRT hb1
  clear hw1 hk
  have hC1 := hC.below hb1
  have hS1 := hS.below hb1
  have hRT1 := hRT.sub1
  obtain ⟨b0, o0, hd, hab, hbb, HHd, hds, hc0⟩ := hRT.one (k := 0) (by omega)
  simp only [Option.some.injEq, Addr.mk.injEq, and_true] at hab
  obtain ⟨rfl, rfl⟩ := hab
  simp only [Nat.add_zero] at hc0
  obtain ⟨X, HX⟩ : ∃ X, Hid (subA (some ⟨w.heap.size, 0, none⟩) (k + 1) 1 = X) := ⟨_, rfl⟩
  rw [HX.out, Nat.add_sub_cancel] at hRT1
  have hsl : ∀ W, (Instr.sliceAt 51 (.slice (some ⟨w.heap.size, 0, none⟩) (k + 1) (k + 1)) (some (.int .i64 1)) none none).run Tryd.prog W = .ok (.slice X k k) W := fun W => by
    rw [← HX.out]
    exact run_subl Tryd.underlying51 infoS1r (some ⟨w.heap.size, 0, none⟩) (k + 1) (k + 1) 1 rfl (by omega) W
  have hb1B := hb1.mono hBw
  clear hb1 hC hS
  go_wp2_with fail
  refine (cNumbers X k k (ags t) w1 hRT1 (by omega)).mono ?_
  rintro e w2 ⟨hNm, hb2⟩
  have hC2 := hC1.below hb2
  have hS2 := hS1.below hb2
  have hc02 : w2.cell? ⟨w.heap.size, 0, none⟩ = some (.string hd) := by rw [hb2.cell (World.block_lt_of_cell? w1 _ hc0)]; exact hc0
  have hl02 := World.block_lt_of_cell? w2 _ hc02
  have hb2B := hb1B.trans (hb2.mono (Nat.le_trans hBw hb1B.size))
  have hBw2 : B ≤ w2.heap.size := by have := hb2B.size; omega
  clear hC1 hS1 hb2 hc0 hb1B hRT1 hRT hsl hbb
  rcases hNm with ⟨hno, rfl⟩ | ⟨hok, gn, rfl, hgn, hbl⟩
  · have HN : Hid (Nok t O) := nok_num HAL.out hno
    clear hno
    go_wp2
    go_ret
    exact ⟨.inr (.inr ⟨HN.out, rfl⟩), hb2B⟩
  · have HON : Hid (okn (ags t) k) := hok
    have HBl : Hid (Blk w2 gn (nbl (ags t) k)) := hbl
    have hgl := hbl.lt
    clear hok
    by_cases hout : hd = outB
    · have he : (hd.toList == [111, 117, 116]) = true := by rw [← outB_listR]; exact tl_yes hout
      have HHo : Hid (tx (wds t) 0 = outB) := by unfold Hid; rw [HHd.out]; exact hout
      clear hout
      by_cases hk1 : k = 1
      · subst hk1
        obtain ⟨x0, HX0⟩ : ∃ x, Hid (agn t 0 = x) := ⟨_, rfl⟩
        have hcn := hbl.cell (i := 0) (by rw [nbl_len]; omega)
        rw [nbl_at (by omega), show dgn (tx (ags t) 0) (tx (ags t) 0).size = x0 from HX0.out] at hcn
        have hx0 : 0 ≤ x0 ∧ x0 ≤ 9999999999 := by rw [← HX0.out]; exact ag_bd HON.out (by omega)
        have hwr : IntKind.i64.wrap x0 = x0 := by rw [IntKind.wrap_i64]; omega
        have HL : Hid (Lno t x0) := ⟨HHo.out, HAL.out, HON.out, HX0.out.symm⟩
        have hownD : w2.drew.ownsRow B 3 1 (.slice ao m co) m (zns O) := hC2.ins
        have HGf : Hid (zns O ++ [.int .i64 x0] = zns (O ++ [x0])) := zns_snoc O x0
        have HUP : Hid (∀ g7 c7 w7, w7.ownsRow B 3 1 (.slice (some ⟨g7, 0, none⟩) (m + 1) c7) (m + 1) (zns (O ++ [x0])) → w2.drew.grownBy w7 (Value.slice ao m co).ownBlock →
            ((∃ x, w7.cell? ⟨gc, 1, none⟩ = some x) ∧ w7.frozen? ⟨gc, 1, none⟩ = false) ∧ Crd (w7.setCell ⟨gc, 1, none⟩ (.slice (some ⟨g7, 0, none⟩) (m + 1) c7)) B gc ag n cg (some ⟨g7, 0, none⟩) (m + 1) c7 G (O ++ [x0]) ∧ Below B w (w7.setCell ⟨gc, 1, none⟩ (.slice (some ⟨g7, 0, none⟩) (m + 1) c7))) := fun g7 c7 w7 ho hg => by
          have hCd : Crd w2.drew B gc ag n cg ao m co G O := ⟨hC2.box, hC2.ln, hC2.lo, hC2.own, hC2.ins⟩
          have hb7 := hCd.box.grown hg (box_apart hCd.box hCd.ins eIC)
          exact ⟨⟨⟨_, hb7.cells.2⟩, hb7.frozen 1⟩, hCd.out ho hg, ((hb2B.drew).grown hg (by exact hBw2) (fun q hq => (hCd.ins.lt q hq).1)).setCell (p := ⟨gc, 1, none⟩) hBg _⟩
        obtain ⟨d0, d1⟩ := hC2.box.cells
        have hgc2 := hC2.box.lt
        clear hC2 hS2 hb2B hbl HBl
        go_wp2
        go_region_law (refine step_appZ Tryd.underlying23 infoIt rfl (by decide) (by decide) w2.drew rfl _ _ rfl B _ _ _ rfl hownD [.int .i64 x0] rfl (by intro u hu; simp at hu; subst hu; rfl) rfl rfl (by omega) (by exact hBw2) ?_; intro g7 c7 w7 ho7 hgr7 _; rw [HGf.out] at ho7; obtain ⟨⟨⟨xx, dd⟩, ff⟩, hE⟩ := HUP.out g7 c7 w7 ho7 hgr7; have hl7 := World.block_lt_of_cell? w7 _ dd; have HE : Hid (_ ∧ _) := hE; clear ho7 hgr7 hE)
        all_goals
          clear HUP hownD
          go_wp2
          go_ret
          exact ⟨.inr (.inl ⟨x0, _, _, HL.out, rfl, HE.out.1⟩), HE.out.2⟩
      · have HN : Hid (Nok t O) := nok_out HHo.out (by rw [HAL.out]; exact hk1)
        have hkb1 : ((k : Int) != 1) = true := by rw [bne_iff_ne]; omega
        clear hk1 hC2 hS2 hbl HBl
        go_wp2
        go_ret
        exact ⟨.inr (.inr ⟨HN.out, rfl⟩), hb2B⟩
    · have he : (hd.toList == [111, 117, 116]) = false := by rw [← outB_listR]; exact tl_no hout
      have HHo : Hid (tx (wds t) 0 ≠ outB) := by unfold Hid; rw [HHd.out]; exact hout
      clear hout
      go_wp2_with fail
      refine (cReadGate hd gn k (nbl (ags t) k) w2 hbl (nbl_len _ _) (by omega) (nbl_bd HON.out) hS2).mono ?_
      rintro e w3 ⟨hor, hb3⟩
      have hC3 := hC2.below hb3
      have hb3B := hb2B.trans (hb3.mono hBw2)
      have hBw3 : B ≤ w3.heap.size := by have := hb3.size; omega
      clear hC2 hS2 hb3 hbl HBl hb2B hc02 hl02 he
      rcases hor with ⟨q, hq1, hq7, hqx, hqn, rfl⟩ | ⟨hno, rfl⟩
      · obtain ⟨GG, HGG⟩ : ∃ g, Hid (gol q (nbl (ags t) k) = g) := ⟨_, rfl⟩
        have HLg : Hid (Lng t (gof q t)) := by
          refine lng_of hq1 hq7 (hqx.trans HHd.out.symm) (by rw [HAL.out]; exact hqn) ?_
          rw [← hqn]
          exact HON.out
        have HGE : Hid (GG = nmg (gof q t)) := by unfold Hid; rw [← HGG.out, hqn]; exact gol_gof hq1 hq7
        rw [HGG.out]
        obtain ⟨gk, ga, gb, gn'⟩ := GG
        unfold gcell
        simp only
        have hbA : Below w3.heap.size w3 (w3.alloc (.cells #[.int .i64 gk, .int .i64 ga, .int .i64 gb, .int .u64 gn'] 58)) := (Below.refl _ _).alloc (Nat.le_refl _) _
        have hP := Gbx.new w3 gk ga gb gn'
        have hC4 := hC3.below hbA
        have hb4B := hb3B.trans (hbA.mono hBw3)
        clear hqx hqn hq1 hq7 hC3 hb3B
        go_upto_region 11 with fail
        generalize w3.alloc (.cells #[.int .i64 gk, .int .i64 ga, .int .i64 gb, .int .u64 gn'] 58) = w4 at *
        have hBw4 : B ≤ w4.heap.size := by have := hbA.size; omega
        obtain ⟨d0, d1⟩ := hC4.box.cells
        obtain ⟨p0, p1, p2, p3⟩ := hP.cells
        have pl := hP.lt
        have hgc4 := hC4.box.lt
        clear hbA
        by_cases hm0 : m = 0
        · subst hm0
          have HO : Hid (O = []) := List.length_eq_zero_iff.1 hC4.lo
          have hownD : w4.drew.ownsRow B 58 4 (.slice ag n cg) n (gcs G) := hC4.own
          have HGf : Hid (gcs G ++ [.int .i64 gk, .int .i64 ga, .int .i64 gb, .int .u64 gn'] = gcs (G ++ [⟨gk, ga, gb, gn'⟩])) := gcs_snoc G ⟨gk, ga, gb, gn'⟩
          have HUP : Hid (∀ g7 c7 w7, w7.ownsRow B 58 4 (.slice (some ⟨g7, 0, none⟩) (n + 1) c7) (n + 1) (gcs (G ++ [⟨gk, ga, gb, gn'⟩])) → w4.drew.grownBy w7 (Value.slice ag n cg).ownBlock →
              ((∃ x, w7.cell? ⟨gc, 0, none⟩ = some x) ∧ w7.frozen? ⟨gc, 0, none⟩ = false) ∧ Crd (w7.setCell ⟨gc, 0, none⟩ (.slice (some ⟨g7, 0, none⟩) (n + 1) c7)) B gc (some ⟨g7, 0, none⟩) (n + 1) c7 ao 0 co (G ++ [⟨gk, ga, gb, gn'⟩]) O ∧ Below B w (w7.setCell ⟨gc, 0, none⟩ (.slice (some ⟨g7, 0, none⟩) (n + 1) c7))) := fun g7 c7 w7 ho hg => by
            have hCd : Crd w4.drew B gc ag n cg ao 0 co G O := ⟨hC4.box, hC4.ln, hC4.lo, hC4.own, hC4.ins⟩
            have hb7 := hCd.box.grown hg (box_apart hCd.box hCd.own eGC)
            exact ⟨⟨⟨_, hb7.cells.1⟩, hb7.frozen 0⟩, hCd.gate ho hg, ((hb4B.drew).grown hg (by exact hBw4) (fun q hq => (hCd.own.lt q hq).1)).setCell (p := ⟨gc, 0, none⟩) hBg _⟩
          clear hC4 hb4B hP
          go_wp2
          go_region_law (refine step_appZ Tryd.underlying22 infoGt rfl (by decide) (by decide) w4.drew rfl _ _ rfl B _ _ _ rfl hownD [.int .i64 gk, .int .i64 ga, .int .i64 gb, .int .u64 gn'] rfl (by intro u hu; simp at hu; rcases hu with rfl | rfl | rfl | rfl <;> rfl) rfl rfl (by omega) (by exact hBw4) ?_; intro g7 c7 w7 ho7 hgr7 _; rw [HGf.out] at ho7; obtain ⟨⟨⟨xx, dd⟩, ff⟩, hE⟩ := HUP.out g7 c7 w7 ho7 hgr7; have hl7 := World.block_lt_of_cell? w7 _ dd; have HE : Hid (_ ∧ _) := hE; clear ho7 hgr7 hE)
          all_goals
            clear HUP hownD
            go_wp2
            go_ret
            exact ⟨.inl ⟨gof q t, _, _, HLg.out, HO.out, rfl, by rw [← HGE.out]; exact HE.out.1⟩, HE.out.2⟩
        · have HN : Hid (Nok t O) := nok_outs HHo.out (fun e => hm0 (by rw [← hC4.lo, e]; rfl))
          have hmp : (0 : Int) < (m : Int) := by omega
          clear hm0
          go_wp2
          go_ret
          exact ⟨.inr (.inr ⟨HN.out, rfl⟩), hb4B⟩
      · have HN : Hid (Nok t O) := nok_gate HHo.out HAL.out (fun j h1 h7 e => hno j h1 h7 (e.trans HHd.out))
        have hbA : Below w3.heap.size w3 (w3.alloc (.cells #[.int .i64 0, .int .i64 0, .int .i64 0, .int .u64 0] 58)) := (Below.refl _ _).alloc (Nat.le_refl _) _
        have hb4B := hb3B.trans (hbA.mono hBw3)
        unfold gcell
        simp only
        clear hno hC3 hb3B
        go_wp2
        go_ret
        exact ⟨.inr (.inr ⟨HN.out, rfl⟩), hb4B⟩
theorem gt_map (G : List Gt) (i : Nat) : gt (G.map nmg) i = nmg (gt G i) := by
  unfold gt
  rw [List.getD_eq_getElem?_getD, List.getD_eq_getElem?_getD, List.getElem?_map]
  cases G[i]? with
  | none => rfl
  | some g => rfl
theorem okg_nmz {i : Nat} {g : Gt} (h : g.k = 2 ∨ g.k = 6 ∨ g.n = 0) : okg i (nmg g) ↔ okg i g := by
  have n0 : nm 0 = 0 := rfl
  unfold okg nmg
  simp only
  rcases h with h | h | h
  · rw [h]; omega
  · rw [h]; omega
  · rw [h, n0]
theorem lng_zn {t : ByteArray} {g : Gt} (h : Lng t g) : g.k = 2 ∨ g.k = 6 ∨ g.n = 0 := by
  obtain ⟨k, hk, _, _, _, rfl⟩ := h
  rcases arn_of hk.1 hk.2 with ⟨rfl, _⟩ | ⟨rfl, _⟩ | ⟨rfl, _⟩ | ⟨h3, _⟩
  · exact .inr (.inr rfl)
  · exact .inl rfl
  · exact .inr (.inl rfl)
  · refine .inr (.inr ?_)
    unfold gof
    rw [if_neg (by omega), if_neg (by omega), if_neg (by omega)]
theorem Rds.zn {l : List ByteArray} : ∀ {i : Nat} {G : List Gt} {O : List Int}, Rds l i G O → ∀ g ∈ G, g.k = 2 ∨ g.k = 6 ∨ g.n = 0
  | 0, _, _, h, g, hg => by obtain ⟨rfl, rfl⟩ := h; simp at hg
  | i + 1, _, _, h, g, hg => by
    obtain ⟨G0, O0, h0, h1⟩ := h
    rcases h1 with ⟨g', a, _, rfl, rfl⟩ | ⟨x, _, rfl, rfl⟩
    · rcases List.mem_append.1 hg with hg | hg
      · exact h0.zn g hg
      · obtain rfl := List.mem_singleton.1 hg
        exact lng_zn a
    · exact h0.zn g hg
theorem Rds.len {l : List ByteArray} : ∀ {i : Nat} {G : List Gt} {O : List Int}, Rds l i G O → G.length + O.length = i
  | 0, _, _, h => by obtain ⟨rfl, rfl⟩ := h; rfl
  | i + 1, _, _, h => by
    obtain ⟨G0, O0, h0, h1⟩ := h
    have := h0.len
    rcases h1 with ⟨g', _, rfl, rfl, rfl⟩ | ⟨x, _, rfl, rfl⟩
    · simp at this ⊢; omega
    · simp; omega
theorem okG_nmz {G : List Gt} (h : ∀ g ∈ G, g.k = 2 ∨ g.k = 6 ∨ g.n = 0) (n : Nat) : okG (G.map nmg) n ↔ okG G n := by
  have hg : ∀ i, (gt G i).k = 2 ∨ (gt G i).k = 6 ∨ (gt G i).n = 0 := fun i => by
    by_cases hi : i < G.length
    · exact h _ (gt_mem hi)
    · refine .inr (.inr ?_)
      unfold gt
      rw [List.getD_eq_getElem?_getD, List.getElem?_eq_none (by omega)]
      rfl
  constructor
  · intro e i hi
    have := e i hi
    rw [gt_map] at this
    exact (okg_nmz (hg i)).1 this
  · intro e i hi
    rw [gt_map]
    exact (okg_nmz (hg i)).2 (e i hi)
theorem cke_nm {G : List Gt} {O : List Int} {n m : Nat} {r : Int} (h : ∀ g ∈ G, g.k = 2 ∨ g.k = 6 ∨ g.n = 0) : Cke (G.map nmg) O n m r ↔ Cke G O n m r := by
  unfold Cke
  rw [okG_nmz h]
theorem gbd_nm {G : List Gt} (h : ∀ g ∈ G, gbd g) : ∀ g ∈ G.map nmg, gbd g := fun g hg => by
  obtain ⟨g', hg', rfl⟩ := List.mem_map.1 hg
  have h1 := h g' hg'
  have h2 := nm_bd g'.n
  unfold gbd at h1 ⊢
  unfold nmg
  simp only
  omega
theorem gcs_len4 (G : List Gt) : (G.map nmg).length = G.length := List.length_map ..
/-- The lines behind the first i. -/
def Rst (s : ByteArray) (i : Nat) (r : ByteArray) : Prop := ∃ P, lns s = P ++ lns r ∧ P.length = i
theorem Rst.start (s : ByteArray) : Rst s 0 s := ⟨[], rfl, rfl⟩
theorem Rst.last {s r : ByteArray} {i : Nat} (h : Rst s i r) (hr : lns r = [r]) : lnn s = i ∧ tx (lns s) (lnn s) = r := by
  obtain ⟨P, h1, rfl⟩ := h
  have e : lnn s = P.length := by unfold lnn; rw [h1, hr]; simp
  refine ⟨e, ?_⟩
  rw [e, h1, hr]
  simp [tx]
theorem Rst.next {s r t u : ByteArray} {i : Nat} (h : Rst s i r) (hr : lns r = t :: lns u) : Rst s (i + 1) u ∧ tx (lns s) i = t ∧ i < lnn s := by
  obtain ⟨P, h1, rfl⟩ := h
  refine ⟨⟨P ++ [t], by rw [h1, hr]; simp, by simp⟩, ?_, ?_⟩
  · rw [h1, hr]
    simp [tx]
  · have := lns_len u
    unfold lnn
    rw [h1, hr]
    simp
    omega
theorem lns_mt : lns mt = [mt] := rfl
/-- What Parse answers: gates with their numbers' rests. -/
def Prn (s : ByteArray) (w : World) (e : Ending) (w' : World) : Prop :=
  ∃ (ag : Option Addr) (cg : Nat) (ao : Option Addr) (co at_ : Nat) (r : Int) (G : List Gt) (O : List Int), e = .returned (.tuple #[.agg #[.slice ag G.length cg, .slice ao O.length co], .int .i64 (at_ : Int), .int .i64 r]) ∧ Par s G O at_ r ∧
    w'.ownsRow w.heap.size 58 4 (.slice ag G.length cg) G.length (gcs (G.map nmg)) ∧ w'.ownsRow w.heap.size 3 1 (.slice ao O.length co) O.length (zns O) ∧ Below w.heap.size w w'
theorem Prn.err {s : ByteArray} {w w' : World} {r : Int} {n : Nat} (h : Par s [] [] n r) (hb : Below w.heap.size w w') : Prn s w (.returned (.tuple #[.agg #[.slice none 0 0, .slice none 0 0], .int .i64 (n : Int), .int .i64 r])) w' :=
  ⟨none, 0, none, 0, n, r, [], [], rfl, h, World.ownsRow_nil _ _ _ _, World.ownsRow_nil _ _ _ _, hb⟩
theorem mt_yes : (⟨#[]⟩ : ByteArray).toList.isEmpty = true := by decide +kernel
theorem mt_no {r : ByteArray} (h : r ≠ mt) : r.toList.isEmpty = false := by
  cases e : r.toList with
  | nil =>
    exfalso
    apply h
    rw [ByteArray.toList_eq] at e
    apply ByteArray.ext
    exact Array.ext' e
  | cons a l => rfl
theorem own_baseP {w : World} {B B' n z : Nat} {E : TypeId} {v : Value} {xs : List Value} (h : w.ownsRow B E z v n xs) (hB : B' ≤ B) : w.ownsRow B' E z v n xs := by
  refine ⟨h.1, ?_⟩
  rcases h.2 with h1 | ⟨g, cap, cur, e, hb, h2⟩
  · exact .inl h1
  · exact .inr ⟨g, cap, cur, e, Nat.le_trans hB hb, h2⟩
/-- A circuit laid into its box. -/
def put2 (w : World) (b : Nat) (x y : Value) : World := (w.setCell ⟨b, 0, none⟩ x).setCell ⟨b, 1, none⟩ y
theorem put2_grown (w : World) (b : Nat) (x y : Value) : w.grownBy (put2 w b x y) (some b) := grown_trans (grown_set _ _ _ _) (grown_set _ _ _ _)
theorem put2_below {w0 w : World} {b : Nat} {x y : Value} (h : Below w0.heap.size w0 w) (hb : w0.heap.size ≤ b) : Below w0.heap.size w0 (put2 w b x y) := below_grown h (put2_grown w b x y) hb

theorem cParse (s : ByteArray) (w : World) (hs : s.size ≤ 9223372036854775807) (hS : Shp w) : Calls Tryd.prog 5 #[.string s] w fun e w' => Prn s w e w' := by
  have hZ0 := CBox.new w none 0 0 none 0 0
  have hb0 : Below w.heap.size w (w.alloc (.cells #[.slice none 0 0, .slice none 0 0] 25)) := (Below.refl _ _).alloc (Nat.le_refl _) _
  go_enter Tryd.func5, Tryd.ntmps5
  go_upto_region 1 with fail
  generalize w.alloc (.cells #[.slice none 0 0, .slice none 0 0] 25) = W at *
  have hwW : w.heap.size < W.heap.size := hZ0.lt
  by_cases hlong : 2048 < s.size
  · have HP : Hid (Par s [] [] 0 2) := .inl ⟨hlong, rfl, rfl, rfl, rfl⟩
    obtain ⟨z0, z1⟩ := hZ0.cells
    have fz := fun i => hZ0.frozen i
    obtain ⟨y0, y1⟩ := two_put (x := .slice none 0 0) (y := .slice none 0 0) z0 z1
    have HBE : Hid (Below w.heap.size w (put2 W w.heap.size (.slice none 0 0) (.slice none 0 0))) := put2_below hb0 (Nat.le_refl _)
    unfold put2 at HBE
    clear hZ0 hb0
    go_wp2
    exact bodyPost_ret (v := .tuple #[.agg #[.slice none 0 0, .slice none 0 0], .int .i64 ((0 : Nat) : Int), .int .i64 2]) (by simp [results, Tryd.results5, go_sem, y0, y1]) rfl (Prn.err HP.out HBE.out)
  · have hC0 := CBox.new W none 0 0 none 0 0
    have hb1' : Below W.heap.size W (W.alloc (.cells #[.slice none 0 0, .slice none 0 0] 25)) := (Below.refl _ _).alloc (Nat.le_refl _) _
    have hb1 := hb0.trans (hb1'.mono hb0.size)
    have hZ1 := hZ0.below hb1' hwW
    have hR1 : Crd (W.alloc (.cells #[.slice none 0 0, .slice none 0 0] 25)) W.heap.size W.heap.size none 0 0 none 0 0 [] [] := ⟨hC0, rfl, rfl, World.ownsRow_nil _ _ _ _, World.ownsRow_nil _ _ _ _⟩
    go_upto_region 4 with fail
    generalize W.alloc (.cells #[.slice none 0 0, .slice none 0 0] 25) = W1 at *
    clear hb0 hb1' hZ0 hC0
    go_wp2
    go_loopw [0, 6] (fun u v wr => ∃ (i : Nat) (r : ByteArray) (ag : Option Addr) (cg : Nat) (ao : Option Addr) (co : Nat) (G : List Gt) (O : List Int), u = .string r ∧ v = .int .i64 ((i : Int) + 1) ∧ i + r.size ≤ s.size ∧ Hid (Rst s i r) ∧ Hid (Rds (lns s) i G O) ∧ Crd wr W.heap.size W.heap.size ag G.length cg ao O.length co (G.map nmg) O ∧ CBox wr w.heap.size none 0 0 none 0 0 ∧ Below w.heap.size w wr) (fun u _ _ => (match u with | .string r => r.size | _ => 0))
    case atStart => exact ⟨0, s, none, 0, none, 0, [], [], rfl, rfl, by omega, Rst.start s, ⟨rfl, rfl⟩, hR1, hZ1, hb1⟩
    case round =>
      clear hR1 hZ1 hb1
      obtain ⟨i, r, ag, cg, ao, co, G, O, rfl, rfl, hir, HRst, HRds, hC, hZ, hbel⟩ := hrel
      have hlen := HRds.out.len
      obtain ⟨N, HN⟩ : ∃ N, Hid (G.length = N) := ⟨_, rfl⟩
      obtain ⟨M, HM⟩ : ∃ M, Hid (O.length = M) := ⟨_, rfl⟩
      rw [HN.out, HM.out] at hC hlen
      have hs1 := hbel.size
      by_cases hr0 : r = mt
      · subst hr0
        have he : (mt : ByteArray).toList.isEmpty = true := mt_yes
        obtain ⟨hl1, hl2⟩ := HRst.out.last lns_mt
        have HPE : Hid (∀ q, Cke G O G.length O.length q → q ≠ 0 → Par s [] [] 0 q) := fun q hq h0 => .inr ⟨by omega, .inr ⟨G, O, by rw [hl1]; exact HRds.out, .inr ⟨hl2, rfl, hq, .inl ⟨h0, rfl, rfl⟩⟩⟩⟩
        have HPY : Hid (Cke G O G.length O.length 0 → Par s G O 0 0) := fun hq => .inr ⟨by omega, .inr ⟨G, O, by rw [hl1]; exact HRds.out, .inr ⟨hl2, rfl, hq, .inr ⟨rfl, rfl, rfl⟩⟩⟩⟩
        have hgb := gbd_nm HRds.out.bd.1
        have hob := HRds.out.bd.2
        have HZN : Hid (∀ g ∈ G, g.k = 2 ∨ g.k = 6 ∨ g.n = 0) := HRds.out.zn
        have hG := RdG.ownA hC.own hC.ln hgb
        have hO := RdI.ownA hC.ins hob
        obtain ⟨d0, d1⟩ := hC.box.cells
        have hgl := hC.box.lt
        clear hgb hob hl1 hl2
        go_wp2_with fail
        refine (cCheckC _ _ _ _ _ _ _ _ _ hG hO (hS.below hbel)).mono ?_
        rintro e w3 ⟨q, rfl, hq, hb3⟩
        have hqb := hq.bd
        have HQ : Hid (Cke G O G.length O.length q) := by
          unfold Hid
          rw [HN.out, HM.out]
          exact (cke_nm HZN.out).1 hq
        have hC3 := hC.below hb3
        have hZ3 := hZ.below hb3 hZ.lt
        have hb3w := hbel.trans (hb3.mono hs1)
        obtain ⟨z0, z1⟩ := hZ3.cells
        have fz := fun i => hZ3.frozen i
        have zl := hZ3.lt
        clear hq hG hO hC hZ hb3 hbel d0 d1 hgl
        by_cases hq0 : q = 0
        · subst hq0
          have HP : Hid (Par s G O 0 0) := HPY.out HQ.out
          obtain ⟨d0, d1⟩ := hC3.box.cells
          have hgl := hC3.box.lt
          obtain ⟨y0, y1⟩ := two_put (x := .slice ag N cg) (y := .slice ao M co) z0 z1
          have hg1 := put2_grown w3 w.heap.size (.slice ag N cg) (.slice ao M co)
          have k1 := box_apart hZ3 hC3.own eGC
          have k2 := box_apart hZ3 hC3.ins eIC
          have HO1 : Hid (World.ownsRow _ _ _ _ _ _ _) := own_baseP (hC3.own.kept hg1 (.inr (fun e => k1 e.symm))) (Nat.le_of_lt hwW)
          have HO2 : Hid (World.ownsRow _ _ _ _ _ _ _) := own_baseP (hC3.ins.kept hg1 (.inr (fun e => k2 e.symm))) (Nat.le_of_lt hwW)
          have HBE : Hid (Below w.heap.size w (put2 w3 w.heap.size (.slice ag N cg) (.slice ao M co))) := put2_below hb3w (Nat.le_refl _)
          unfold put2 at HO1 HO2 HBE
          clear hg1 k1 k2 hC3 hZ3 hb3w hqb
          go_wp2
          exact bodyPost_ret (v := .tuple #[.agg #[.slice ag N cg, .slice ao M co], .int .i64 ((0 : Nat) : Int), .int .i64 0]) (by simp [results, Tryd.results5, go_sem, y0, y1]) rfl ⟨ag, cg, ao, co, 0, 0, G, O, by rw [HN.out, HM.out], HP.out, by rw [HN.out]; exact HO1.out, by rw [HM.out]; exact HO2.out, HBE.out⟩
        · have HP : Hid (Par s [] [] 0 q) := HPE.out q HQ.out hq0
          have hqn : (q != 0) = true := by rw [bne_iff_ne]; exact hq0
          obtain ⟨y0, y1⟩ := two_put (x := .slice none 0 0) (y := .slice none 0 0) z0 z1
          have HBE : Hid (Below w.heap.size w (put2 w3 w.heap.size (.slice none 0 0) (.slice none 0 0))) := put2_below hb3w (Nat.le_refl _)
          unfold put2 at HBE
          clear hC3 hZ3 hb3w hq0 hqb
          go_wp2
          exact bodyPost_ret (v := .tuple #[.agg #[.slice none 0 0, .slice none 0 0], .int .i64 ((0 : Nat) : Int), .int .i64 q]) (by simp [results, Tryd.results5, go_sem, y0, y1]) rfl (Prn.err HP.out HBE.out)
      · have he : r.toList.isEmpty = false := mt_no hr0
        rcases cut_cases r 10 with ⟨hx, hp⟩ | ⟨j, hx, hj, hp⟩
        · obtain ⟨hl1, hl2⟩ := HRst.out.last hp
          have HP : Hid (Par s [] [] (i + 1) 3) := .inr ⟨by omega, .inr ⟨G, O, by rw [hl1]; exact HRds.out, .inl ⟨by rw [hl2]; exact hr0, rfl, rfl, by rw [hl1], rfl⟩⟩⟩
          clear hl1 hl2 hp hr0
          go_wp2_with fail
          refine (sCutN r wr hx).mono ?_
          rintro e w3 ⟨rfl, hb3⟩
          have hZ3 := hZ.below hb3 hZ.lt
          have hb3w := hbel.trans (hb3.mono hs1)
          obtain ⟨z0, z1⟩ := hZ3.cells
          have fz := fun i => hZ3.frozen i
          have zl := hZ3.lt
          obtain ⟨y0, y1⟩ := two_put (x := .slice none 0 0) (y := .slice none 0 0) z0 z1
          have HBE : Hid (Below w.heap.size w (put2 w3 w.heap.size (.slice none 0 0) (.slice none 0 0))) := put2_below hb3w (Nat.le_refl _)
          unfold put2 at HBE
          clear hZ3 hb3w hC hZ hbel hb3 hx he
          go_wp2
          exact bodyPost_ret (v := .tuple #[.agg #[.slice none 0 0, .slice none 0 0], .int .i64 ((i + 1 : Nat) : Int), .int .i64 3]) (by simp [results, Tryd.results5, go_sem, y0, y1]) rfl (Prn.err HP.out HBE.out)
        · obtain ⟨hn1, hn2, hn3⟩ := HRst.out.next hp
          obtain ⟨t, Ht⟩ : ∃ t, Hid (r.extract 0 j = t) := ⟨_, rfl⟩
          obtain ⟨u, Hu⟩ : ∃ u, Hid (r.extract (j + 1) r.size = u) := ⟨_, rfl⟩
          have htz : t.size ≤ 2048 := by rw [← Ht.out, ByteArray.size_extract]; omega
          have huz : u.size + (j + 1) = r.size := by rw [← Hu.out, ByteArray.size_extract]; omega
          rw [Hu.out] at hn1
          rw [Ht.out] at hn2
          have HR1 : Hid (Rst s (i + 1) u) := hn1
          have HT : Hid (tx (lns s) i = t) := hn2
          have HLT : Hid (i < lnn s) := hn3
          clear hn1 hn2 hn3 hp hr0
          go_wp2_with fail
          refine (sCutY r j wr hx hj (by omega)).mono ?_
          rintro e w3 ⟨rfl, hb3⟩
          rw [Ht.out, Hu.out]
          have hC3 := hC.below hb3
          have hZ3 := hZ.below hb3 hZ.lt
          have hb3w := hbel.trans (hb3.mono hs1)
          have hS3 := hS.below hb3w
          clear hC hZ hbel hb3 hx he
          go_wp2_with fail
          refine (cReadLine W.heap.size W.heap.size t ag N cg ao M co (G.map nmg) O w3 hC3 (Nat.le_refl _) hS3 htz (by omega) (by omega) HRds.out.bd.2).mono ?_
          rintro e w4 ⟨hor, hb4⟩
          have hZ4 := hZ3.below hb4 hwW
          have hb4w : Below w.heap.size w w4 := hb3w.trans (hb4.mono (Nat.le_of_lt hwW))
          clear hC3 hZ3 hb3w hb4 hS3
          rcases hor with ⟨g, a', c', hL, hO0, rfl, hC4⟩ | ⟨x, a', c', hL, rfl, hC4⟩ | ⟨hno, rfl⟩
          · have HR : Hid (Rds (lns s) (i + 1) (G ++ [g]) O) := ⟨G, O, HRds.out, .inl ⟨g, by rw [HT.out]; exact hL, hO0, rfl, hO0⟩⟩
            have HC4 : Hid (Crd w4 W.heap.size W.heap.size a' (G ++ [g]).length c' ao O.length co ((G ++ [g]).map nmg) O) := by
              unfold Hid
              rw [HM.out, List.length_append, HN.out, List.map_append]
              exact hC4
            clear hL hO0 hC4
            go_wp2
            go_roundw
            case rel => exact ⟨i + 1, u, a', c', ao, co, G ++ [g], O, rfl, by go_num, by omega, HR1, HR, HC4.out, hZ4, hb4w⟩
            case measure => simp; omega
          · have HR : Hid (Rds (lns s) (i + 1) G (O ++ [x])) := ⟨G, O, HRds.out, .inr ⟨x, by rw [HT.out]; exact hL, rfl, rfl⟩⟩
            have HC4 : Hid (Crd w4 W.heap.size W.heap.size ag G.length cg a' (O ++ [x]).length c' (G.map nmg) (O ++ [x])) := by
              unfold Hid
              rw [HN.out, List.length_append, HM.out]
              exact hC4
            clear hL hC4
            go_wp2
            go_roundw
            case rel => exact ⟨i + 1, u, ag, cg, a', c', G, O ++ [x], rfl, by go_num, by omega, HR1, HR, HC4.out, hZ4, hb4w⟩
            case measure => simp; omega
          · have HP : Hid (Par s [] [] (i + 1) 3) := .inr ⟨by omega, .inl ⟨i, G, O, HLT.out, HRds.out, by rw [HT.out]; exact hno, rfl, rfl, rfl, rfl⟩⟩
            obtain ⟨z0, z1⟩ := hZ4.cells
            have fz := fun i => hZ4.frozen i
            have zl := hZ4.lt
            obtain ⟨y0, y1⟩ := two_put (x := .slice none 0 0) (y := .slice none 0 0) z0 z1
            have HBE : Hid (Below w.heap.size w (put2 w4 w.heap.size (.slice none 0 0) (.slice none 0 0))) := put2_below hb4w (Nat.le_refl _)
            unfold put2 at HBE
            clear hZ4 hb4w hno
            go_wp2
            exact bodyPost_ret (v := .tuple #[.agg #[.slice none 0 0, .slice none 0 0], .int .i64 ((i + 1 : Nat) : Int), .int .i64 3]) (by simp [results, Tryd.results5, go_sem, y0, y1]) rfl (Prn.err HP.out HBE.out)
end
end Go.Proofs.YtljlioglpaogdacDoor

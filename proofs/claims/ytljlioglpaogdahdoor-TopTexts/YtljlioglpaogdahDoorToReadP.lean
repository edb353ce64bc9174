/- What is printed is read as it was: plain facts. · The first piece of a text and the rest: plain facts. · strings.Split at one blank, strings.Cut at a byte 10: strings.Index, strings.Count at one byte and genSplit off the shelf. · Two lists of shares that a call gathers in turn; one behind the other. · A circuit that is being read: its box, its gates and outs. · What is read of a text: bounds; what Parse answers. -/
import Derived.Test.YtljlioglpaogdahDoorParM
import Derived.Lib.Bytealg
import Derived.Lib.IndexLaws
import Derived.Lib.IndexBytes
import Derived.Lib.SplitLaws
import Derived.Lib.Strings
import Derived.Test.YtljlioglpaogdahDoorShLay
import Derived.Deep.RegionWith
import Derived.BigRegion
import Derived.Test.YtljlioglpaogdahDoorToWhoseC
import Derived.Laws.AppendOwnNone
import Derived.Test.YtljlioglpaogdahDoorToNumbC
import Derived.Deep.AppendLies
import Derived.Deep.RegionLaw
import Derived.Test.YtljlioglpaogdahDoorToGRightC
namespace Go.Proofs.YtljlioglpaogdahDoor
set_option linter.unusedVariables false
set_option maxRecDepth 100000
set_option maxHeartbeats 8000000
section
open Crm
/-- Bytes as a text. -/
def toB (l : List UInt8) : ByteArray := ⟨l.toArray⟩
theorem toB_size (l : List UInt8) : (toB l).size = l.length := by simp [toB, ByteArray.size]
theorem toB_app (l m : List UInt8) : toB l ++ toB m = toB (l ++ m) := by
  apply ByteArray.ext
  rw [ByteArray.data_append]
  simp [toB]
theorem toB_list (s : ByteArray) : toB s.data.toList = s := by simp [toB]
theorem bt_toB (l : List UInt8) {i : Nat} (h : i < l.length) : bt (toB l) i = ((l[i]'h).toNat : Int) := by
  have h' : i < (toB l).size := by rw [toB_size]; exact h
  rw [← bt_get _ h']
  rfl
theorem toB_ext (l : List UInt8) {i : Nat} (h : i < l.length) : (toB l).extract i (i + 1) = toB [l[i]'h] := by
  apply ByteArray.ext
  rw [ByteArray.data_extract]
  apply Array.ext'
  rw [Array.toList_extract]
  show (l.drop i).take (i + 1 - i) = [l[i]]
  rw [Nat.add_sub_cancel_left, List.drop_eq_getElem_cons h]
  rfl
/-- Pieces, byte by byte. -/
def pst (b : Int) (P : List (List UInt8)) (c : UInt8) : List (List UInt8) := if (c.toNat : Int) = b then P ++ [[]] else P.set (P.length - 1) (P.getD (P.length - 1) [] ++ [c])
def pll (b : Int) (l : List UInt8) : List (List UInt8) := l.foldl (pst b) [[]]
theorem pst_no {b : Int} {c : UInt8} (A : List (List UInt8)) (h : List UInt8) (hc : (c.toNat : Int) ≠ b) : pst b (A ++ [h]) c = A ++ [h ++ [c]] := by
  unfold pst
  rw [if_neg hc]
  simp
theorem pst_yes {b : Int} {c : UInt8} (P : List (List UInt8)) (hc : (c.toNat : Int) = b) : pst b P c = P ++ [[]] := by unfold pst; rw [if_pos hc]
theorem pll_run {b : Int} : ∀ (xs : List UInt8) (A : List (List UInt8)) (h : List UInt8), (∀ c ∈ xs, (c.toNat : Int) ≠ b) → xs.foldl (pst b) (A ++ [h]) = A ++ [h ++ xs]
  | [], A, h, _ => by simp
  | c :: xs, A, h, hx => by
    rw [List.foldl_cons, pst_no A h (hx c (by simp)), pll_run xs A (h ++ [c]) (fun d hd => hx d (by simp [hd]))]
    simp
theorem pll_cut {b : Int} {c : UInt8} (xs : List UInt8) (A : List (List UInt8)) (hx : ∀ d ∈ xs, (d.toNat : Int) ≠ b) (hc : (c.toNat : Int) = b) : (xs ++ [c]).foldl (pst b) (A ++ [[]]) = A ++ [xs] ++ [[]] := by
  rw [List.foldl_append, pll_run xs A [] hx, List.nil_append, List.foldl_cons, List.foldl_nil, pst_yes _ hc]
theorem pcs_toB (b : Int) (l : List UInt8) : ∀ k, k ≤ l.length → pcs (toB l) b k = (pll b (l.take k)).map toB
  | 0, _ => rfl
  | k + 1, hk => by
    have ih := pcs_toB b l k (by omega)
    have e : pll b (l.take (k + 1)) = pst b (pll b (l.take k)) (l[k]'hk) := by
      unfold pll
      rw [List.take_succ_eq_append_getElem hk, List.foldl_append]
      rfl
    rw [pcs, e, bt_toB l hk, ih]
    unfold pst
    split
    · simp [toB, mt]
    · rw [List.map_set, toB_ext l hk]
      congr 1
      · simp
      · rw [← toB_app]
        congr 1
        simp [List.getD_eq_getElem?_getD, List.getElem?_map]
        cases (pll b (l.take k))[(pll b (l.take k)).length - 1]? <;> rfl
theorem pcs_all (b : Int) (l : List UInt8) : pcs (toB l) b (toB l).size = (pll b l).map toB := by
  rw [toB_size, pcs_toB b l l.length (Nat.le_refl _), List.take_length]
/-- A text of lines. -/
def txt (L : List (List UInt8)) : List UInt8 := L.flatMap fun x => x ++ [10]
theorem pll_txt : ∀ (L : List (List UInt8)) (A : List (List UInt8)), (∀ x ∈ L, ∀ d ∈ x, (d.toNat : Int) ≠ 10) → (txt L).foldl (pst 10) (A ++ [[]]) = A ++ L ++ [[]]
  | [], A, _ => by simp [txt]
  | x :: L, A, h => by
    have e : txt (x :: L) = (x ++ [10]) ++ txt L := by simp [txt]
    rw [e, List.foldl_append, pll_cut x A (h x (by simp)) (by decide), pll_txt L (A ++ [x]) (fun y hy => h y (by simp [hy]))]
    simp
theorem lns_txt {L : List (List UInt8)} (h : ∀ x ∈ L, ∀ d ∈ x, (d.toNat : Int) ≠ 10) : lns (toB (txt L)) = L.map toB ++ [mt] := by
  unfold lns
  rw [pcs_all]
  have := pll_txt L [] h
  unfold pll
  rw [List.nil_append] at this
  rw [this]
  simp [toB, mt]
theorem lnn_txt {L : List (List UInt8)} (h : ∀ x ∈ L, ∀ d ∈ x, (d.toNat : Int) ≠ 10) : lnn (toB (txt L)) = L.length := by
  unfold lnn
  rw [lns_txt h]
  simp
theorem tx_txt {L : List (List UInt8)} (h : ∀ x ∈ L, ∀ d ∈ x, (d.toNat : Int) ≠ 10) {i : Nat} (hi : i < L.length) : tx (lns (toB (txt L))) i = toB (L.getD i []) := by
  rw [lns_txt h]
  unfold tx
  rw [List.getD_eq_getElem?_getD, List.getElem?_append_left (by simpa using hi), List.getElem?_map, List.getElem?_eq_getElem hi, List.getD_eq_getElem?_getD, List.getElem?_eq_getElem hi]
  rfl
theorem tx_last {L : List (List UInt8)} (h : ∀ x ∈ L, ∀ d ∈ x, (d.toNat : Int) ≠ 10) : tx (lns (toB (txt L))) L.length = mt := by
  rw [lns_txt h]
  simp [tx]
/-- A line of words. -/
theorem wds_two {a b : List UInt8} (ha : ∀ d ∈ a, (d.toNat : Int) ≠ 32) (hb : ∀ d ∈ b, (d.toNat : Int) ≠ 32) : wds (toB (a ++ [32] ++ b)) = [toB a, toB b] := by
  unfold wds
  rw [pcs_all]
  unfold pll
  have := pll_cut (b := 32) (c := 32) a [] ha (by decide)
  rw [List.nil_append] at this
  rw [List.foldl_append, this, pll_run b _ _ hb]
  simp
theorem wds_three {a b c : List UInt8} (ha : ∀ d ∈ a, (d.toNat : Int) ≠ 32) (hb : ∀ d ∈ b, (d.toNat : Int) ≠ 32) (hc : ∀ d ∈ c, (d.toNat : Int) ≠ 32) : wds (toB (a ++ [32] ++ b ++ [32] ++ c)) = [toB a, toB b, toB c] := by
  unfold wds
  rw [pcs_all]
  unfold pll
  have h1 := pll_cut (b := 32) (c := 32) a [] ha (by decide)
  rw [List.nil_append] at h1
  have h2 := pll_cut (b := 32) (c := 32) b [a] hb (by decide)
  have e : a ++ [32] ++ b ++ [32] ++ c = (a ++ [32]) ++ ((b ++ [32]) ++ c) := by simp
  rw [e, List.foldl_append, h1, List.foldl_append]
  have h2' : (b ++ [32]).foldl (pst 32) ([] ++ [a] ++ [[]]) = [a] ++ [b] ++ [[]] := h2
  rw [h2', pll_run c _ _ hc]
  simp

/-- Digits of a number. -/
def dd (u : Nat) : List UInt8 := Lib.decDigits u
theorem dd_lo {u : Nat} (h : u < 10) : dd u = [UInt8.ofNat (48 + u)] := Lib.decDigits_one h
theorem dd_hi {u : Nat} (h : ¬ u < 10) : dd u = dd (u / 10) ++ [UInt8.ofNat (48 + u % 10)] := by
  unfold dd
  rw [Lib.decDigits, dif_neg h]
theorem byte_of {k : Nat} (h : k < 10) : ((UInt8.ofNat (48 + k)).toNat : Int) = 48 + (k : Int) := by
  have : (UInt8.ofNat (48 + k)).toNat = 48 + k := by
    rw [UInt8.toNat_ofNat']
    omega
  omega
theorem dd_digit (u : Nat) : ∀ c ∈ dd u, 48 ≤ (c.toNat : Int) ∧ (c.toNat : Int) ≤ 57 := by
  induction u using Nat.strongRecOn with
  | _ u ih =>
    intro c hc
    by_cases h : u < 10
    · rw [dd_lo h] at hc
      obtain rfl := List.mem_singleton.1 hc
      rw [byte_of h]; omega
    · rw [dd_hi h] at hc
      rcases List.mem_append.1 hc with hc | hc
      · exact ih (u / 10) (by omega) c hc
      · obtain rfl := List.mem_singleton.1 hc
        rw [byte_of (by omega)]; omega
theorem dd_pos (u : Nat) : 1 ≤ (dd u).length := by
  by_cases h : u < 10
  · rw [dd_lo h]; exact Nat.le_refl 1
  · rw [dd_hi h]; simp
theorem dd_len : ∀ (k u : Nat), u < 10 ^ (k + 1) → (dd u).length ≤ k + 1
  | 0, u, h => by rw [dd_lo (by simpa using h)]; exact Nat.le_refl 1
  | k + 1, u, h => by
    by_cases h1 : u < 10
    · rw [dd_lo h1]; simp
    · rw [dd_hi h1]
      have := dd_len k (u / 10) (by rw [Nat.pow_succ] at h ⊢; omega)
      simp
      omega
theorem dgn_app (l m : List UInt8) : ∀ k, k ≤ l.length → dgn (toB (l ++ m)) k = dgn (toB l) k
  | 0, _ => rfl
  | k + 1, hk => by
    rw [dgn, dgn, dgn_app l m k (by omega), bt_toB l hk, bt_toB (l ++ m) (by simp; omega), List.getElem_append_left hk]
theorem dd_val (u : Nat) : dgn (toB (dd u)) (dd u).length = (u : Int) := by
  induction u using Nat.strongRecOn with
  | _ u ih =>
    by_cases h : u < 10
    · rw [dd_lo h]
      show dgn (toB [UInt8.ofNat (48 + u)]) (0 + 1) = _
      rw [dgn, dgn, bt_toB _ (by simp)]
      simp only [List.getElem_cons_zero]
      rw [byte_of h]
      omega
    · have h1 := ih (u / 10) (by omega)
      rw [dd_hi h, List.length_append, List.length_singleton, dgn, dgn_app _ _ _ (Nat.le_refl _), h1, bt_toB _ (by simp)]
      rw [List.getElem_append_right (Nat.le_refl _)]
      simp only [Nat.sub_self, List.getElem_cons_zero]
      rw [byte_of (by omega)]
      omega
theorem dd_first {u : Nat} (h : 1 ≤ u) : bt (toB (dd u)) 0 ≠ 48 := by
  induction u using Nat.strongRecOn with
  | _ u ih =>
    by_cases h1 : u < 10
    · rw [dd_lo h1, bt_toB _ (by simp)]
      simp only [List.getElem_cons_zero]
      rw [byte_of h1]
      omega
    · have h2 := ih (u / 10) (by omega) (by omega)
      have hp := dd_pos (u / 10)
      rw [dd_hi h1, bt_toB _ (by simp), List.getElem_append_left (by omega)]
      rw [bt_toB _ (by omega)] at h2
      exact h2
theorem dd_okd {u : Nat} (h : u < 10000000000) : okd (toB (dd u)) := by
  have hs := toB_size (dd u)
  refine ⟨⟨by rw [hs]; exact dd_pos u, by rw [hs]; exact dd_len 9 u (by simpa using h)⟩, fun i hi => ?_, fun e => ?_⟩
  · rw [hs] at hi
    rw [bt_toB _ hi]
    exact dd_digit u _ (List.getElem_mem _)
  · refine dd_first (u := u) ?_ e.2
    have h1 := e.1
    rw [hs] at h1
    rcases Nat.lt_or_ge u 10 with h2 | h2
    · rw [dd_lo h2] at h1; simp at h1
    · omega
theorem dd_dgn (u : Nat) : dgn (toB (dd u)) (toB (dd u)).size = (u : Int) := by rw [toB_size, dd_val]
theorem itb_dd (u : Nat) : itb (u : Int) = toB (dd u) := by
  unfold itb
  rw [Lib.itoa_nonneg]
  rfl
theorem dd_no32 (u : Nat) : ∀ d ∈ dd u, (d.toNat : Int) ≠ 32 := fun d hd => by have := dd_digit u d hd; omega
theorem dd_no10 (u : Nat) : ∀ d ∈ dd u, (d.toNat : Int) ≠ 10 := fun d hd => by have := dd_digit u d hd; omega
theorem pst_pre {b : Int} {c : UInt8} (A P : List (List UInt8)) (hP : P ≠ []) : pst b (A ++ P) c = A ++ pst b P c := by
  rcases List.eq_nil_or_concat P with e | ⟨Q, h, rfl⟩
  · exact absurd e hP
  · by_cases hc : (c.toNat : Int) = b
    · rw [pst_yes _ hc, pst_yes _ hc, List.append_assoc]
    · rw [List.concat_eq_append, ← List.append_assoc, pst_no _ _ hc, pst_no _ _ hc, List.append_assoc]
theorem pst_ne {b : Int} {c : UInt8} (P : List (List UInt8)) (hP : P ≠ []) : pst b P c ≠ [] := by
  unfold pst
  split
  · simp
  · intro e
    have := congrArg List.length e
    simp at this
    exact hP this
theorem pll_pre {b : Int} : ∀ (l : List UInt8) (A P : List (List UInt8)), P ≠ [] → l.foldl (pst b) (A ++ P) = A ++ l.foldl (pst b) P
  | [], _, _, _ => rfl
  | c :: l, A, P, hP => by
    rw [List.foldl_cons, List.foldl_cons, pst_pre A P hP]
    exact pll_pre l A _ (pst_ne P hP)
/-- Where a byte first is. -/
theorem ixb (c : UInt8) : ∀ l : List UInt8, (Lib.indexByte l c = -1 ∧ ∀ d ∈ l, (d.toNat : Int) ≠ (c.toNat : Int)) ∨ ∃ xs ys, l = xs ++ c :: ys ∧ (∀ d ∈ xs, (d.toNat : Int) ≠ (c.toNat : Int)) ∧ Lib.indexByte l c = (xs.length : Int)
  | [] => .inl ⟨rfl, fun d hd => by simp at hd⟩
  | d :: l => by
    by_cases e : d = c
    · subst e
      exact .inr ⟨[], l, rfl, fun d hd => by simp at hd, by simp [Lib.indexByte]⟩
    · have hne : (d.toNat : Int) ≠ (c.toNat : Int) := fun e' => e (UInt8.toNat_inj.1 (by omega))
      have hb : (d == c) = false := by rw [beq_eq_false_iff_ne]; exact e
      rcases ixb c l with ⟨h1, h2⟩ | ⟨xs, ys, h1, h2, h3⟩
      · refine .inl ⟨by simp [Lib.indexByte, hb, h1], fun x hx => ?_⟩
        rcases List.mem_cons.1 hx with rfl | hx
        · exact hne
        · exact h2 x hx
      · refine .inr ⟨d :: xs, ys, by rw [h1]; rfl, fun x hx => ?_, ?_⟩
        · rcases List.mem_cons.1 hx with rfl | hx
          · exact hne
          · exact h2 x hx
        · simp [Lib.indexByte, hb, h3]
theorem ext_list (s : ByteArray) (a b : Nat) : s.extract a b = toB ((s.data.toList.drop a).take (b - a)) := Lib.extract_eq s a b
/-- A text has the byte or hasn't. -/
theorem cut_cases (s : ByteArray) (c : UInt8) : (Lib.indexByte s.data.toList c = -1 ∧ pcs s (c.toNat : Int) s.size = [s]) ∨
    ∃ j, Lib.indexByte s.data.toList c = ((j : Nat) : Int) ∧ j < s.size ∧ pcs s (c.toNat : Int) s.size = s.extract 0 j :: pcs (s.extract (j + 1) s.size) (c.toNat : Int) (s.extract (j + 1) s.size).size := by
  obtain ⟨l, rfl⟩ : ∃ l, s = toB l := ⟨_, (toB_list s).symm⟩
  have hl : (toB l).data.toList = l := by simp [toB]
  rw [hl, pcs_all]
  rcases ixb c l with ⟨h1, h2⟩ | ⟨xs, ys, rfl, h2, h3⟩
  · refine .inl ⟨h1, ?_⟩
    have := pll_run l [] [] h2
    simp only [List.nil_append] at this
    unfold pll
    rw [this]
    rfl
  · refine .inr ⟨xs.length, h3, by rw [toB_size]; simp, ?_⟩
    have e1 : (toB (xs ++ c :: ys)).extract 0 xs.length = toB xs := by rw [ext_list, hl]; simp
    have e2 : (toB (xs ++ c :: ys)).extract (xs.length + 1) (toB (xs ++ c :: ys)).size = toB ys := by
      rw [ext_list, hl, toB_size]
      have : (xs ++ c :: ys).drop (xs.length + 1) = ys := by
        rw [List.drop_append]
        simp
      rw [this, List.take_of_length_le (by simp; omega)]
    rw [e1, e2, pcs_all]
    have e3 : pll (c.toNat : Int) (xs ++ c :: ys) = xs :: pll (c.toNat : Int) ys := by
      unfold pll
      have hc := pll_cut (b := (c.toNat : Int)) (c := c) xs [] h2 rfl
      simp only [List.nil_append] at hc
      rw [show xs ++ c :: ys = (xs ++ [c]) ++ ys by simp, List.foldl_append, hc, pll_pre ys [xs] [[]] (by simp)]
      rfl
    rw [e3]
    rfl
/-- strings.Split tells the pieces. -/
theorem split_pcs (c : UInt8) : ∀ (k : Nat) (s : ByteArray), s.data.toList.count c = k → Lib.splitB ⟨#[c]⟩ 0 k s = pcs s (c.toNat : Int) s.size
  | k, s, hk => by
    have hix : Lib.indexB s ⟨#[c]⟩ = Lib.indexByte s.data.toList c := Lib.index_one _ _
    rcases cut_cases s c with ⟨h1, h2⟩ | ⟨j, h1, hj, h2⟩
    · rw [h2, Lib.splitB_miss _ _ _ _ (by rw [hix]; exact h1)]
    · have hrest : (s.extract (j + 1) s.size).data.toList = s.data.toList.drop (j + 1) := by
        rw [Lib.extract_data, List.take_of_length_le]
        rw [List.length_drop, Array.length_toList]
        exact Nat.le_refl _
      obtain ⟨hat, hbe⟩ := Lib.indexByte_some h1
      have hcount : s.data.toList.count c = (s.data.toList.drop (j + 1)).count c + 1 := by
        have e := List.take_append_drop (j + 1) s.data.toList
        have hjl : j < s.data.toList.length := (List.getElem?_eq_some_iff.1 hat).1
        have e2 : (s.data.toList.take (j + 1)).count c = 1 := by
          rw [List.take_add_one, hat, List.count_append]
          have : (s.data.toList.take j).count c = 0 := by
            rw [List.count_eq_zero]
            intro hm
            obtain ⟨i, hi, he⟩ := List.getElem_of_mem hm
            have hij : i < j := by simp at hi; omega
            refine hbe i hij ?_
            rw [List.getElem?_eq_getElem (by simp at hi; omega)]
            simpa using he
          rw [this]
          simp
        have := congrArg (List.count c) e
        rw [List.count_append, e2] at this
        omega
      obtain ⟨k', rfl⟩ : ∃ k', k = k' + 1 := ⟨k - 1, by omega⟩
      have ih := split_pcs c k' (s.extract (j + 1) s.size) (by rw [hrest]; omega)
      have hh := Lib.splitB_hit ⟨#[c]⟩ 0 k' s j (by rw [hix]; exact h1)
      have hsz : (⟨#[c]⟩ : ByteArray).size = 1 := rfl
      rw [h2, hh, hsz, ih]
      rfl
end
section
open Crm Go.RowKit Go.Shelf
theorem infoS9 : (Tryd.prog.info? 9).map (fun i => (i.zero, i.size, i.bytes)) = some (some (.string ByteArray.empty), 1, 16) := by kernel_rfl
theorem count_pcs (c : UInt8) (s : ByteArray) : (pcs s (c.toNat : Int) s.size).length = s.data.toList.count c + 1 := by
  rw [← split_pcs c _ s rfl]
  refine Lib.splitB_all ⟨#[c]⟩ (Nat.le_refl 1) 0 _ s ?_
  exact Lib.count_one c _
theorem wds_len (s : ByteArray) : (wds s).length = s.data.toList.count 32 + 1 := count_pcs 32 s

theorem sSplit (s : ByteArray) (w : World) (hs : s.size ≤ 100000) :
    Calls Tryd.prog 32 #[.string s, .string ⟨#[32]⟩] w fun e w' => e = .returned (.slice (some ⟨w.heap.size, 0, none⟩) (wds s).length (wds s).length) ∧ w' = w.alloc (.cells ((wds s).map Value.string).toArray 9) := by
  have hl := wds_len s
  have hcb : Lib.countB s ⟨#[32]⟩ = s.data.toList.count 32 := Lib.count_one 32 _
  have hcl : s.data.toList.count 32 ≤ s.size := by
    have := List.count_le_length (a := (32 : UInt8)) (l := s.data.toList)
    rwa [Array.length_toList] at this
  have hC : Calls Tryd.prog 72 #[.string s, .string ⟨#[32]⟩] w fun e w' => e = .returned (.int .i64 (Lib.countB s ⟨#[32]⟩)) ∧ w' = w := by
    rw [hcb]
    exact Any.strings_Count_one Tryd.lays138 s 32 w
  have hI : ∀ (x : ByteArray) (c : Array Value), x.size ≤ s.size → Calls Tryd.prog 73 #[.string x, .string ⟨#[32]⟩] (w.alloc (.cells c 9)) fun e w' => e = .returned (.int .i64 (Lib.indexB x ⟨#[32]⟩)) ∧ w' = w.alloc (.cells c 9) := fun x c _ => by
    have e : Lib.indexB x ⟨#[32]⟩ = Lib.indexByte x.data.toList 32 := Lib.index_one _ _
    rw [e]
    exact Any.strings_Index_one Tryd.lays143 x 32 _
  have hG := Any.strings_genSplit_core Tryd.lays221 infoS9 s ⟨#[32]⟩ 0 (-1) (s.data.toList.count 32 + 1) w (by omega) (by decide) (Nat.zero_le _) hI hC (by decide) (by decide) (by rw [if_pos (by decide), hcb]; omega)
  rw [Nat.add_sub_cancel, split_pcs 32 _ s rfl] at hG
  have e2 : Lib.cellsOf (pcs s (((32 : UInt8).toNat : Nat) : Int) s.size) (s.data.toList.count 32 + 1) = ((wds s).map Value.string).toArray := by
    rw [← hl]
    exact Lib.cellsOf_full _
  rw [e2] at hG
  have hG' : Calls Tryd.prog 47 #[.string s, .string ⟨#[32]⟩, .int .i64 0, .int .i64 (-1)] w fun e w' => e = .returned (.slice (some ⟨w.heap.size, 0, none⟩) (wds s).length (wds s).length) ∧ w' = w.alloc (.cells ((wds s).map Value.string).toArray 9) := by
    refine hG.mono ?_
    rintro e w' ⟨rfl, rfl⟩
    exact ⟨by rw [hl]; show Ending.returned (Value.slice _ (wds s).length _) = _; rw [hl], rfl⟩
  clear hG hI hC e2 hcb hcl hl
  go_enter Tryd.func32, Tryd.ntmps32
  go_wp2_with (go_at_call 47; refine hG'.mono ?_; rintro e w' ⟨rfl, hw⟩; rw [hw])
  go_ret
  exact ⟨rfl, rfl⟩
/-- The pieces are read. -/
theorem rdT_alloc (w : World) (L : List ByteArray) (hl : L.length ≤ 200000) (hb : ∀ x ∈ L, x.size ≤ 9223372036854775807) : RdT (w.alloc (.cells (L.map Value.string).toArray 9)) (some ⟨w.heap.size, 0, none⟩) L.length L.length L := by
  refine ⟨rfl, Nat.le_refl _, by unfold maxLen; omega, by simp, fun i hi => ?_, fun x hx i hi => ?_⟩
  · unfold tx
    rw [List.getD_eq_getElem?_getD, List.getElem?_eq_getElem hi]
    exact hb _ (List.getElem_mem _)
  · obtain rfl := Option.some.inj hx
    rw [Addr.add_lit, Nat.zero_add, World.cell?_alloc_at _ _ _ _ rfl, List.getElem?_toArray, List.getElem?_map, List.getElem?_eq_getElem hi]
    unfold tx
    rw [List.getD_eq_getElem?_getD, List.getElem?_eq_getElem hi]
    rfl

theorem sCutN (s : ByteArray) (w : World) (h : Lib.indexByte s.data.toList 10 = -1) :
    Calls Tryd.prog 20 #[.string s, .string ⟨#[10]⟩] w fun e w' => e = .returned (.tuple #[.string s, .string ⟨#[]⟩, .bool false]) ∧ Below w.heap.size w w' := by
  have hI : ∀ W, Calls Tryd.prog 46 #[.string s, .string ⟨#[10]⟩] W fun e w' => e = .returned (.int .i64 (-1)) ∧ w' = W := fun W => by
    rw [← h]
    exact Any.stringslite_Index_one Tryd.lays219 s 10 W
  have hC : Calls Tryd.prog 31 #[.string s, .string ⟨#[10]⟩] w fun e w' => e = .returned (.tuple #[.string s, .string ⟨#[]⟩, .bool false]) ∧ Below w.heap.size w w' := by
    go_enter Tryd.func31, Tryd.ntmps31
    go_wp2_with (go_at_call 46; refine (hI _).mono ?_; rintro e w' ⟨rfl, hw⟩; have hw := hw.symm; subst hw)
    go_ret3
    exact ⟨rfl, Below.refl _ _⟩
  go_enter Tryd.func20, Tryd.ntmps20
  go_wp2_with (go_at_call 31; refine hC.mono ?_; rintro e w' ⟨rfl, hb⟩)
  go_ret3
  exact ⟨rfl, hb⟩
theorem sCutY (s : ByteArray) (j : Nat) (w : World) (h : Lib.indexByte s.data.toList 10 = (j : Int)) (hj : j < s.size) (hs : s.size ≤ 100000) :
    Calls Tryd.prog 20 #[.string s, .string ⟨#[10]⟩] w fun e w' => e = .returned (.tuple #[.string (s.extract 0 j), .string (s.extract (j + 1) s.size), .bool true]) ∧ Below w.heap.size w w' := by
  have hI : ∀ W, Calls Tryd.prog 46 #[.string s, .string ⟨#[10]⟩] W fun e w' => e = .returned (.int .i64 (j : Int)) ∧ w' = W := fun W => by
    rw [← h]
    exact Any.stringslite_Index_one Tryd.lays219 s 10 W
  have hC : Calls Tryd.prog 31 #[.string s, .string ⟨#[10]⟩] w fun e w' => e = .returned (.tuple #[.string (s.extract 0 j), .string (s.extract (j + 1) s.size), .bool true]) ∧ Below w.heap.size w w' := by
    have c1 : (0 : Int) ≤ ↑j := by omega
    have c2 : (↑j : Int) ≤ ↑s.size := by omega
    have c4 : (↑j + 1 : Int) ≤ ↑s.size := by omega
    have c5 : (0 : Int) ≤ ↑j + 1 := by omega
    go_enter Tryd.func31, Tryd.ntmps31
    go_wp2_with (go_at_call 46; refine (hI _).mono ?_; rintro e w' ⟨rfl, hw⟩; have hw := hw.symm; subst hw)
    go_region
    go_wp2
    go_ret3
    exact ⟨rfl, (Below.refl _ _).drew⟩
  go_enter Tryd.func20, Tryd.ntmps20
  go_wp2_with (go_at_call 31; refine hC.mono ?_; rintro e w' ⟨rfl, hb⟩)
  go_ret3
  exact ⟨rfl, hb⟩
end
section
open Crm Go.RowKit
/-- Two such lists, apart. -/
structure Two (w : World) (B : Nat) (E : TypeId) (v1 v2 : Value) (l1 l2 : List (Int × Int)) : Prop where
  o1 : w.ownsRow B E 2 v1 l1.length (shc l1)
  o2 : w.ownsRow B E 2 v2 l2.length (shc l2)
  ne : ∀ g, v1.ownBlock = some g → v2.ownBlock ≠ some g
theorem Two.start (w : World) (B : Nat) (E : TypeId) : Two w B E (.slice none 0 0) (.slice none 0 0) [] [] := ⟨World.ownsRow_nil _ _ _ _, World.ownsRow_nil _ _ _ _, fun g h => by simp [Value.ownBlock] at h⟩
theorem Two.add {w w' : World} {B : Nat} {E : TypeId} {v1 v2 v' : Value} {l1 l2 : List (Int × Int)} {p : Int × Int} (h : Two w B E v1 v2 l1 l2) (ho : w'.ownsRow B E 2 v' (l1.length + 1) (shc (l1 ++ [p]))) (hg : w.grownBy w' v1.ownBlock) (hat : v'.ownBlock = v1.ownBlock ∨ ∃ k, v'.ownBlock = some k ∧ w.heap.size ≤ k) : Two w' B E v' v2 (l1 ++ [p]) l2 := by
  refine ⟨by rw [List.length_append, List.length_singleton]; exact ho, h.o2.kept hg ?_, fun g h1 h2 => ?_⟩
  · cases hv : v1.ownBlock with
    | none => cases hv2 : v2.ownBlock <;> simp
    | some g => exact .inr (h.ne g hv)
  · rcases hat with hat | ⟨k, hk, hle⟩
    · exact h.ne g (by rw [← hat]; exact h1) h2
    · have h3 := (h.o2.lt g h2).2
      rw [hk] at h1
      have := Option.some.inj h1
      omega
theorem Two.below {w w' : World} {B : Nat} {E : TypeId} {v1 v2 : Value} {l1 l2 : List (Int × Int)} (h : Two w B E v1 v2 l1 l2) (hb : Below w.heap.size w w') : Two w' B E v1 v2 l1 l2 := ⟨own_below2 h.o1 hb, own_below2 h.o2 hb, h.ne⟩

/-- Lists of other elements lie elsewhere. -/
theorem own_apart {w : World} {B1 B2 n1 n2 z1 z2 : Nat} {E1 E2 : TypeId} {v1 v2 : Value} {xs ys : List Value} (h1 : w.ownsRow B1 E1 z1 v1 n1 xs) (h2 : w.ownsRow B2 E2 z2 v2 n2 ys) (hE : E1 ≠ E2) : v2.ownBlock = none ∨ v2.ownBlock ≠ v1.ownBlock := by
  rcases h2.2 with ⟨rfl, _⟩ | ⟨g, cap, cur, rfl, _, hg, _⟩
  · exact .inl rfl
  · right
    rcases h1.2 with ⟨rfl, _⟩ | ⟨g', cap', cur', rfl, _, hg', _⟩
    · simp [Value.ownBlock]
    · intro e
      simp [Value.ownBlock] at e
      subst e
      rw [hg] at hg'
      simp only [Option.some.injEq, Obj.cells.injEq] at hg'
      exact hE hg'.2.1.symm
/-- append of one element of z cells to a slice that the call itself gathers, a step of a region that draws; where it lies. -/
theorem step_appZ {P : Program} {T E : TypeId} {z0 : Value} {z by_ : Nat} (hT : P.underlying T = some (.slice E)) (info : (P.info? E).map (fun i => (i.zero, i.size, i.bytes)) = some (some z0, z, by_)) (hz : z0.cells.size = z) (hzp : 0 < z) (hby : by_ ≤ 100)
    (w : World) {w1 : World} {ops : Array Oper} {o : Oper} {a : Act} {K : Act → World → Prop} {Q : Exit → Act → World → Prop} {F : Prop} (hgd : o.guard = none) (s x : Operand)
    (ho : o.op = .call { callee := .builtin .append, args := #[s, x], argTypes := #[T, T] })
    (base : Nat) (v : Value) (n : Nat) (xs : List Value) (hs : a.eval s = v) (hown : w.ownsRow base E z v n xs) (ys : List Value) (hyl : ys.length = z) (hy1 : ∀ u ∈ ys, u.oneCell' = true) (hx : a.eval x = .slice (some ⟨w.heap.size, 0, none⟩) 1 1)
    (hw1 : w1 = w.alloc (.cells ys.toArray E)) (hn : n ≤ 1000000) (hbase : base ≤ w.heap.size)
    (h : ∀ g cap w', w'.ownsRow base E z (.slice (some ⟨g, 0, none⟩) (n + 1) cap) (n + 1) (xs ++ ys) → w.grownBy w' v.ownBlock → base ≤ g → K (a.put o.dst (.slice (some ⟨g, 0, none⟩) (n + 1) cap)) w') :
    if Region.wanted o (yielded ops a.tmps) = true then Oper.wp P o a w1 K Q else F := by
  subst hw1
  obtain ⟨i0, hi, hz0, hz1, hz2⟩ := info_parts info
  refine step_append_lies _ hgd s x T ho base E i0 z0 z by_ hT hi hz0 hz1 hz2 hz hzp v n _ hs (hown.alloc _) ⟨w.heap.size, 0, none⟩ 1 1 ys hx (by rw [hyl, Nat.one_mul]) ?_ hy1 (by decide) (by unfold maxLen; omega) ?_ (by simp; omega) _ rfl ?_
  · intro j u hj
    exact World.news_of_block (heap_alloc_new w (.cells ys.toArray E)) j u (by simpa using hj)
  · have : (n + 1) * by_ ≤ 1000001 * 100 := Nat.mul_le_mul (by omega) hby
    omega
  · intro g cap w' hown' hgrow _ _
    refine h g cap w' hown' ⟨hgrow.os, hgrow.tape, hgrow.output, ?_, fun k hk hne => ?_⟩ (hown'.lt g rfl).1
    · have := hgrow.size; simp at this; omega
    · rw [hgrow.block k (by simp; omega) hne]; exact Below.heap_alloc _ _ _ hk
theorem infoGt : (Tryd.prog.info? 52).map (fun i => (i.zero, i.size, i.bytes)) = some (some (.agg #[.int .i64 0, .int .i64 0, .int .i64 0, .int .u64 0]), 4, 32) := by kernel_rfl
theorem infoIt : (Tryd.prog.info? 3).map (fun i => (i.zero, i.size, i.bytes)) = some (some (.int .i64 0), 1, 8) := by kernel_rfl
theorem gcs_snoc (G : List Gt) (g : Gt) : gcs G ++ [.int .i64 g.k, .int .i64 g.a, .int .i64 g.b, .int .u64 g.n] = gcs (G ++ [g]) := by simp [gcs]

structure Crd (w : World) (B gc : Nat) (ag : Option Addr) (n cg : Nat) (ao : Option Addr) (m co : Nat) (G : List Gt) (O : List Int) : Prop where
  box : CBox w gc ag n cg ao m co
  ln : G.length = n
  lo : O.length = m
  own : w.ownsRow B 52 4 (.slice ag n cg) n (gcs G)
  ins : w.ownsRow B 3 1 (.slice ao m co) m (zns O)
theorem own_belowZ {w w' : World} {base n z : Nat} {E : TypeId} {v : Value} {xs : List Value} (h : w.ownsRow base E z v n xs) (hb : Below w.heap.size w w') : w'.ownsRow base E z v n xs :=
  h.kept (grown_below hb none) (by cases h' : v.ownBlock <;> simp)
theorem Crd.below {w w' : World} {B gc : Nat} {ag : Option Addr} {n cg : Nat} {ao : Option Addr} {m co : Nat} {G : List Gt} {O : List Int} (h : Crd w B gc ag n cg ao m co G O) (hb : Below w.heap.size w w') : Crd w' B gc ag n cg ao m co G O :=
  ⟨h.box.below hb h.box.lt, h.ln, h.lo, own_belowZ h.own hb, own_belowZ h.ins hb⟩
theorem box_apart {w : World} {gc : Nat} {ag : Option Addr} {n cg : Nat} {ao : Option Addr} {m co : Nat} {B k z : Nat} {E : TypeId} {v : Value} {xs : List Value} (h : CBox w gc ag n cg ao m co) (ho : w.ownsRow B E z v k xs) (hE : E ≠ 25) : some gc ≠ v.ownBlock := by
  rcases ho.2 with ⟨rfl, _⟩ | ⟨g, cap, cur, rfl, _, hg, _⟩
  · simp [Value.ownBlock]
  · intro e
    have e' : gc = g := by simpa [Value.ownBlock] using e
    subst e'
    unfold CBox at h
    rw [hg] at h
    simp only [Option.some.injEq, Obj.cells.injEq] at h
    exact hE h.2.1
/-- When another row grows. -/
theorem Crd.grown {w w' : World} {B gc : Nat} {ag : Option Addr} {n cg : Nat} {ao : Option Addr} {m co : Nat} {G : List Gt} {O : List Int} {r : Option Nat} (h : Crd w B gc ag n cg ao m co G O) (hg : w.grownBy w' r) (h1 : some gc ≠ r) (h2 : (Value.slice ag n cg).ownBlock = none ∨ (Value.slice ag n cg).ownBlock ≠ r) (h3 : (Value.slice ao m co).ownBlock = none ∨ (Value.slice ao m co).ownBlock ≠ r) : Crd w' B gc ag n cg ao m co G O :=
  ⟨h.box.grown hg h1, h.ln, h.lo, h.own.kept hg h2, h.ins.kept hg h3⟩
theorem CBox.set0 {w : World} {gc : Nat} {ag : Option Addr} {n cg : Nat} {ao : Option Addr} {m co : Nat} (h : CBox w gc ag n cg ao m co) (a : Option Addr) (n' c : Nat) : CBox (w.setCell ⟨gc, 0, none⟩ (.slice a n' c)) gc a n' c ao m co := by
  have := heap_setCell_same w gc 0 _ _ (.slice a n' c) h
  unfold CBox
  rw [this]
  rfl
theorem CBox.set1 {w : World} {gc : Nat} {ag : Option Addr} {n cg : Nat} {ao : Option Addr} {m co : Nat} (h : CBox w gc ag n cg ao m co) (a : Option Addr) (n' c : Nat) : CBox (w.setCell ⟨gc, 1, none⟩ (.slice a n' c)) gc ag n cg a n' c := by
  have := heap_setCell_same w gc 1 _ _ (.slice a n' c) h
  unfold CBox
  rw [this]
  rfl
theorem CBox.frozen {w : World} {gc : Nat} {ag : Option Addr} {n cg : Nat} {ao : Option Addr} {m co : Nat} (h : CBox w gc ag n cg ao m co) (i : Nat) : w.frozen? ⟨gc, i, none⟩ = false := frozen_of_row w gc i _ _ h
theorem eGC : (52 : TypeId) ≠ 25 := by decide
theorem eIC : (3 : TypeId) ≠ 25 := by decide
theorem eGI : (52 : TypeId) ≠ 3 := by decide
/-- One gate more: the row grows, and is laid into the box. -/
theorem Crd.gate {w w7 : World} {B gc g7 c7 : Nat} {ag : Option Addr} {n cg : Nat} {ao : Option Addr} {m co : Nat} {G : List Gt} {O : List Int} {x : Gt} (h : Crd w B gc ag n cg ao m co G O)
    (ho : w7.ownsRow B 52 4 (.slice (some ⟨g7, 0, none⟩) (n + 1) c7) (n + 1) (gcs (G ++ [x]))) (hg : w.grownBy w7 (Value.slice ag n cg).ownBlock) :
    Crd (w7.setCell ⟨gc, 0, none⟩ (.slice (some ⟨g7, 0, none⟩) (n + 1) c7)) B gc (some ⟨g7, 0, none⟩) (n + 1) c7 ao m co (G ++ [x]) O := by
  have hb7 := h.box.grown hg (box_apart h.box h.own eGC)
  have hi7 := h.ins.kept hg (own_apart h.own h.ins eGI)
  have hg2 : w7.grownBy (w7.setCell ⟨gc, 0, none⟩ (.slice (some ⟨g7, 0, none⟩) (n + 1) c7)) (some gc) := grown_set _ _ _ _
  have k1 := box_apart hb7 ho eGC
  have k2 := box_apart hb7 hi7 eIC
  exact ⟨hb7.set0 _ _ _, by simp [h.ln], h.lo, ho.kept hg2 (.inr (fun e => k1 e.symm)), hi7.kept hg2 (.inr (fun e => k2 e.symm))⟩
/-- One out more. -/
theorem Crd.out {w w7 : World} {B gc g7 c7 : Nat} {ag : Option Addr} {n cg : Nat} {ao : Option Addr} {m co : Nat} {G : List Gt} {O : List Int} {x : Int} (h : Crd w B gc ag n cg ao m co G O)
    (ho : w7.ownsRow B 3 1 (.slice (some ⟨g7, 0, none⟩) (m + 1) c7) (m + 1) (zns (O ++ [x]))) (hg : w.grownBy w7 (Value.slice ao m co).ownBlock) :
    Crd (w7.setCell ⟨gc, 1, none⟩ (.slice (some ⟨g7, 0, none⟩) (m + 1) c7)) B gc ag n cg (some ⟨g7, 0, none⟩) (m + 1) c7 G (O ++ [x]) := by
  have hb7 := h.box.grown hg (box_apart h.box h.ins eIC)
  have hi7 := h.own.kept hg (own_apart h.ins h.own (fun e => eGI e.symm))
  have hg2 : w7.grownBy (w7.setCell ⟨gc, 1, none⟩ (.slice (some ⟨g7, 0, none⟩) (m + 1) c7)) (some gc) := grown_set _ _ _ _
  have k1 := box_apart hb7 ho eIC
  have k2 := box_apart hb7 hi7 eGC
  exact ⟨hb7.set1 _ _ _, h.ln, by simp [h.lo], hi7.kept hg2 (.inr (fun e => k2 e.symm)), ho.kept hg2 (.inr (fun e => k1 e.symm))⟩
theorem arn_of {k : Nat} (h1 : 1 ≤ k) (h7 : k < 7) : (k = 1 ∧ arn k = 1) ∨ (k = 2 ∧ arn k = 1) ∨ (k = 6 ∧ arn k = 2) ∨ ((k = 3 ∨ k = 4 ∨ k = 5) ∧ arn k = 2) := by
  have : k = 1 ∨ k = 2 ∨ k = 3 ∨ k = 4 ∨ k = 5 ∨ k = 6 := by omega
  rcases this with rfl | rfl | rfl | rfl | rfl | rfl <;> simp [arn]
theorem ag_bd {t : ByteArray} {n i : Nat} (h : okn (ags t) n) (hi : i < n) : 0 ≤ agn t i ∧ agn t i ≤ 9999999999 := okd_bd (h i hi)
def gbd (g : Gt) : Prop := (1 ≤ g.k ∧ g.k ≤ 6) ∧ (0 ≤ g.a ∧ g.a ≤ 9999999999) ∧ (0 ≤ g.b ∧ g.b ≤ 9999999999) ∧ 0 ≤ g.n ∧ g.n ≤ 9999999999
theorem gof_bd {k : Nat} {t : ByteArray} (h1 : 1 ≤ k) (h7 : k < 7) (ho : okn (ags t) (arn k)) : gbd (gof k t) := by
  rcases arn_of h1 h7 with ⟨rfl, e⟩ | ⟨rfl, e⟩ | ⟨rfl, e⟩ | ⟨h3, e⟩
  · rw [e] at ho
    have := ag_bd ho (i := 0) (by omega)
    unfold gof gbd
    simp
    omega
  · rw [e] at ho
    have := ag_bd ho (i := 0) (by omega)
    unfold gof gbd
    simp
    omega
  · rw [e] at ho
    have := ag_bd ho (i := 0) (by omega)
    have := ag_bd ho (i := 1) (by omega)
    unfold gof gbd
    simp
    omega
  · rw [e] at ho
    have := ag_bd ho (i := 0) (by omega)
    have := ag_bd ho (i := 1) (by omega)
    unfold gof gbd
    rw [if_neg (by omega), if_neg (by omega), if_neg (by omega)]
    simp only
    omega
theorem Rds.bd {l : List ByteArray} : ∀ {i : Nat} {G : List Gt} {O : List Int}, Rds l i G O → (∀ g ∈ G, gbd g) ∧ (∀ x ∈ O, 0 ≤ x ∧ x ≤ 9999999999)
  | 0, _, _, h => by obtain ⟨rfl, rfl⟩ := h; exact ⟨fun g hg => by simp at hg, fun x hx => by simp at hx⟩
  | i + 1, _, _, h => by
    obtain ⟨G0, O0, h0, h1⟩ := h
    obtain ⟨b1, b2⟩ := h0.bd
    rcases h1 with ⟨g, ⟨k, hk, _, _, ho, rfl⟩, _, rfl, rfl⟩ | ⟨x, ⟨_, _, ho, rfl⟩, rfl, rfl⟩
    · refine ⟨fun y hy => ?_, fun x hx => by simp at hx⟩
      rcases List.mem_append.1 hy with hy | hy
      · exact b1 y hy
      · obtain rfl := List.mem_singleton.1 hy
        exact gof_bd hk.1 hk.2 ho
    · refine ⟨b1, fun y hy => ?_⟩
      rcases List.mem_append.1 hy with hy | hy
      · exact b2 y hy
      · obtain rfl := List.mem_singleton.1 hy
        exact ag_bd ho (by omega)
theorem Par.gbd {s : ByteArray} {G : List Gt} {O : List Int} {a : Nat} {r : Int} (h : Par s G O a r) : (∀ g ∈ G, gbd g) ∧ (∀ x ∈ O, 0 ≤ x ∧ x ≤ 9999999999) := by
  have nil : (∀ g ∈ ([] : List Gt), Go.Proofs.YtljlioglpaogdahDoor.gbd g) ∧ (∀ x ∈ ([] : List Int), 0 ≤ x ∧ x ≤ 9999999999) := ⟨fun g hg => by simp at hg, fun x hx => by simp at hx⟩
  rcases h with ⟨_, rfl, rfl, _, _⟩ | ⟨_, ⟨_, _, _, _, _, _, rfl, rfl, _, _⟩ | ⟨G0, O0, h1, ⟨_, rfl, rfl, _, _⟩ | ⟨_, _, _, ⟨_, rfl, rfl⟩ | ⟨_, rfl, rfl⟩⟩⟩⟩
  · exact nil
  · exact nil
  · exact nil
  · exact nil
  · exact h1.bd
theorem gt_mem {G : List Gt} {i : Nat} (h : i < G.length) : gt G i ∈ G := by
  unfold gt
  rw [List.getD_eq_getElem?_getD, List.getElem?_eq_getElem h]
  exact List.getElem_mem _
/-- Gates that a call has made its own, none among them too. -/
theorem RdG.ownA {w : World} {base n c : Nat} {a : Option Addr} {E : TypeId} {G : List Gt} (h : w.ownsRow base E 4 (.slice a n c) n (gcs G)) (hl : G.length = n) (hb : ∀ g ∈ G, gbd g) : RdG w a n c G := by
  have hb' : ∀ i, i < n → (-9223372036854775808 ≤ (gt G i).k ∧ (gt G i).k ≤ 9223372036854775807) ∧ (-9223372036854775808 ≤ (gt G i).a ∧ (gt G i).a ≤ 9223372036854775807) ∧ (-9223372036854775808 ≤ (gt G i).b ∧ (gt G i).b ≤ 9223372036854775807) ∧ 0 ≤ (gt G i).n ∧ (gt G i).n ≤ 18446744073709551615 := fun i hi => by
    have := hb _ (gt_mem (show i < G.length by omega))
    unfold gbd at this
    omega
  rcases h.2 with ⟨e, rfl⟩ | ⟨g, cap, cur, e, _⟩
  · simp only [Value.slice.injEq] at e
    obtain ⟨rfl, _, rfl⟩ := e
    exact ⟨hl, Nat.le_refl _, Nat.zero_le _, fun _ => rfl, hb', fun x hx => by simp at hx⟩
  · simp only [Value.slice.injEq] at e
    obtain ⟨rfl, _, rfl⟩ := e
    exact RdG.own h hl hb'
theorem RdI.ownA {w : World} {base n c : Nat} {a : Option Addr} {E : TypeId} {L : List Int} (h : w.ownsRow base E 1 (.slice a n c) n (zns L)) (hb : ∀ x ∈ L, 0 ≤ x ∧ x ≤ 9999999999) : RdI w a n c L := by
  obtain ⟨a', c', e, hr⟩ := RdI.own h (fun x hx => by have := hb x hx; omega)
  simp only [Value.slice.injEq] at e
  obtain ⟨rfl, _, rfl⟩ := e
  exact hr
/-- What Parse answers. -/
def Prd (s : ByteArray) (w : World) (e : Ending) (w' : World) : Prop :=
  ∃ (ag : Option Addr) (cg : Nat) (ao : Option Addr) (co at_ : Nat) (r : Int) (G : List Gt) (O : List Int), e = .returned (.tuple #[.agg #[.slice ag G.length cg, .slice ao O.length co], .int .i64 (at_ : Int), .int .i64 r]) ∧ Par s G O at_ r ∧
    w'.ownsRow w.heap.size 52 4 (.slice ag G.length cg) G.length (gcs G) ∧ w'.ownsRow w.heap.size 3 1 (.slice ao O.length co) O.length (zns O) ∧ Below w.heap.size w w'
theorem Prd.err {s : ByteArray} {w w' : World} {a r : Int} {n : Nat} (h : Par s [] [] n r) (ha : a = (n : Int)) (hb : Below w.heap.size w w') : Prd s w (.returned (.tuple #[.agg #[.slice none 0 0, .slice none 0 0], .int .i64 a, .int .i64 r])) w' := by
  subst ha
  exact ⟨none, 0, none, 0, n, r, [], [], rfl, h, World.ownsRow_nil _ _ _ _, World.ownsRow_nil _ _ _ _, hb⟩
theorem two_put {w : World} {g : Nat} {u v x y : Value} (h0 : w.cell? ⟨g, 0, none⟩ = some u) (h1 : w.cell? ⟨g, 1, none⟩ = some v) :
    ((w.setCell ⟨g, 0, none⟩ x).setCell ⟨g, 1, none⟩ y).cell? ⟨g, 0, none⟩ = some x ∧ ((w.setCell ⟨g, 0, none⟩ x).setCell ⟨g, 1, none⟩ y).cell? ⟨g, 1, none⟩ = some y := by
  refine ⟨?_, ?_⟩
  · rw [World.cell?_setCell_other _ _ _ _ (by simp)]
    exact World.cell?_setCell_same w _ x h0
  · exact World.cell?_setCell_same _ _ y (show (w.setCell ⟨g, 0, none⟩ x).cell? ⟨g, 1, none⟩ = some v by rw [World.cell?_setCell_other _ _ _ _ (by simp)]; exact h1)
/-- A line that is neither. -/
theorem nok_num {t : ByteArray} {O : List Int} {k : Nat} (hl : (ags t).length = k) (h : ¬ okn (ags t) k) : Nok t O := by
  rintro (⟨g, ⟨j, _, _, e, ho, _⟩, _⟩ | ⟨x, _, e, ho, _⟩)
  · rw [← hl, e] at h; exact h ho
  · rw [← hl, e] at h; exact h ho
theorem nok_out {t : ByteArray} {O : List Int} (ho : tx (wds t) 0 = outB) (hl : (ags t).length ≠ 1) : Nok t O := by
  rintro (⟨g, ⟨j, hj, e, _⟩, _⟩ | ⟨x, _, e, _⟩)
  · exact vb_out j hj.2 (e.symm.trans ho)
  · exact hl e
theorem nok_outs {t : ByteArray} {O : List Int} (ho : tx (wds t) 0 ≠ outB) (h : O ≠ []) : Nok t O := by
  rintro (⟨g, _, e⟩ | ⟨x, e, _⟩)
  · exact h e
  · exact ho e
end
end Go.Proofs.YtljlioglpaogdahDoor

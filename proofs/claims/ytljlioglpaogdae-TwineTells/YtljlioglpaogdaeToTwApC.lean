/- croftref.Join. · What the calls of package twine answer. · The square of numbers of a dealing in two variables: plain facts, and its block. · twine.Need, value, allHave. · (*twine.square).row. · Rows by party: the table that package twine makes of rows. · twine.byParty. · (*twine.parties).both, apart. -/
import Derived.Test.YtljlioglpaogdaeToTJoinM
import Derived.Test.YtljlioglpaogdaeToCheckC
import Derived.Test.YtljlioglpaogdaeFitC
import Derived.Test.YtljlioglpaogdaeToCrewC
import Derived.Deep.AppendLies
import Derived.Deep.RegionLaw
import Derived.Test.YtljlioglpaogdaeToTEqC
import Derived.Test.YtljlioglpaogdaeToTPairM
import Derived.Test.YtljlioglpaogdaeValC
import Derived.Test.YtljlioglpaogdaeTwineM
import Derived.Laws.Rows
import Derived.Laws.Tables
import Derived.Test.YtljlioglpaogdaeToOpenC
import Derived.Laws.CopyOwn
namespace Go.Proofs.Ytljlioglpaogdae
set_option linter.unusedVariables false
set_option maxRecDepth 100000
set_option maxHeartbeats 8000000
section
open Crm Go.RowKit
theorem RdW.nbd {w : World} {a : Option Addr} {n c : Nat} {l : List (Int × List Int)} (h : RdW w a n c l) {i : Nat} (hi : i < n) : ∀ x ∈ tc l i, 0 ≤ x ∧ x ≤ 18446744073709551615 := by
  obtain ⟨b, o, x, ai, ni, ci, row, _, _, _, HRow, _, _, _, _, hrow⟩ := h.one hi
  rw [HRow.out]; exact hrow.bd

/-- What Join answers. -/
def Jns (l : List (Int × List Int)) (n : Nat) (t : Int) (w : World) (e : Ending) (w' : World) : Prop := ∃ x r, e = .returned (.tuple #[.int .u64 x, .int .i64 r]) ∧ Jnd l n t x r ∧ Below w.heap.size w w'
/-- How many numbers there are besides the secret. -/
def need2 (t : Nat) : Nat := (t + 1) * (t + 2) / 2 - 1
theorem need2_bd {t : Nat} (h : t ≤ 4) : need2 t ≤ 14 := by
  have hcase : t = 0 ∨ t = 1 ∨ t = 2 ∨ t = 3 ∨ t = 4 := by omega
  rcases hcase with rfl | rfl | rfl | rfl | rfl <;> decide
/-- What Need answers. -/
def Nds (t : Int) (w : World) (e : Ending) (w' : World) : Prop :=
  (((t < 0 ∨ 4 < t) ∧ e = .returned (.tuple #[.int .i64 0, .int .i64 1])) ∨ ∃ k : Nat, t = (k : Int) ∧ k ≤ 4 ∧ e = .returned (.tuple #[.int .i64 (need2 k : Nat), .int .i64 0])) ∧ Below w.heap.size w w'
/-- What is dealt with m draws for n parties is dealt rightly. -/
def Dwk (t n : Int) (m k : Nat) : Prop := t = (k : Int) ∧ k ≤ 4 ∧ m = need2 k ∧ (k : Int) + 1 ≤ n ∧ n ≤ 9
/-- What Deal answers. -/
def Dwl (s : Int) (ds : List Int) (t n : Int) (m : Nat) (w : World) (e : Ending) (w' : World) : Prop :=
  (((∀ k, ¬ Dwk t n m k) ∧ e = .returned (.tuple #[.slice none 0 0, .int .i64 1])) ∨ ∃ (k q : Nat) (v : Value) (L : List (Int × Value)), Dwk t n m k ∧ n = (q : Int) ∧ e = .returned (.tuple #[v, .int .i64 0]) ∧ LsW w' w.heap.size v L (dealA s ds k q)) ∧ Below w.heap.size w w'
/-- What Pairs answers. -/
def Pss (l : List (Int × List Int)) (n : Nat) (w : World) (e : Ending) (w' : World) : Prop :=
  ((¬ Rwk l n ∧ e = .returned (.tuple #[.slice none 0 0, .int .i64 5])) ∨ (Rwk l n ∧ ∃ a k c L, e = .returned (.tuple #[.slice a k c, .int .i64 0]) ∧ RdP w' a k c L ∧ Prs l n L)) ∧ Below w.heap.size w w'
/-- Rows that are dealt are read. -/
theorem deal_rd {w : World} {B : Nat} {v : Value} {L : List (Int × Value)} {s : Int} {ds : List Int} {t q : Nat} (h : LsW w B v L (dealA s ds t q)) (hq : q ≤ 9) : ∃ a c, v = .slice a q c ∧ RdW w a q c (dealA s ds t q) :=
  h.rdW (dealA_len _ _ _ _) (fun i hi => by unfold ta; rw [dealA_getD s ds t hi]; simp only; omega) (fun i hi => by unfold tc; rw [dealA_getD s ds t hi]; exact bd_u64 (rowK_bd _ _ _ _ _))
/-- Block g holds the square's numbers. -/
def BlkQ (w : World) (g : Nat) (C : List Int) : Prop := w.heap[g]? = some (.cells (C.map (Value.int .u64)).toArray 84 (0, 0))
theorem BlkQ.lt {w : World} {g : Nat} {C : List Int} (h : BlkQ w g C) : g < w.heap.size := (Array.getElem?_eq_some_iff.1 h).1
theorem BlkQ.cell {w : World} {g : Nat} {C : List Int} (h : BlkQ w g C) {i : Nat} (hi : i < C.length) : w.cell? ⟨g, i, none⟩ = some (.int .u64 (C.getD i 0)) := by
  rw [cell_of_row w g i _ _ (0, 0) h]
  simp [List.getElem?_eq_getElem hi]
theorem BlkQ.frozen {w : World} {g : Nat} {C : List Int} (h : BlkQ w g C) (i : Nat) : w.frozen? ⟨g, i, none⟩ = false := frozen_of_row w g i _ _ h
theorem BlkQ.set {w : World} {g : Nat} {C : List Int} (h : BlkQ w g C) (i : Nat) (v : Int) : BlkQ (w.setCell ⟨g, i, none⟩ (.int .u64 v)) g (C.set i v) := by
  have := heap_setCell_same w g i _ _ (.int .u64 v) h
  unfold BlkQ
  rw [this]
  simp [List.map_set]
theorem BlkQ.below {w w' : World} {B g : Nat} {C : List Int} (h : BlkQ w g C) (hb : Below B w w') (hg : g < B) : BlkQ w' g C := by
  unfold BlkQ; rw [hb.block g hg]; exact h
theorem BlkQ.other {w : World} {g g' i : Nat} {C : List Int} {v : Value} (h : BlkQ w g C) (hg : g' ≠ g) : BlkQ (w.setCell ⟨g', i, none⟩ v) g C := by
  unfold BlkQ; rw [heap_setCell_other w ⟨g', i, none⟩ g v (fun e => hg e.symm)]; exact h
/-- A part of a row of it. -/
theorem BlkQ.rd {w : World} {g : Nat} {C : List Int} (h : BlkQ w g C) (o n c : Nat) (hc : n ≤ c) (hm : c ≤ maxLen) (hn : o + n ≤ C.length) (hL : ∀ x ∈ C, 0 ≤ x ∧ x ≤ 18446744073709551615) : Rd w (some ⟨g, o, none⟩) n c ((C.drop o).take n) := by
  refine ⟨by simp; omega, hc, hm, fun x hx => hL x (List.mem_of_mem_drop (List.mem_of_mem_take hx)), by simp, fun x hx i hi => ?_⟩
  obtain rfl := Option.some.inj hx
  rw [Addr.add_lit, h.cell (by omega)]
  congr 2
  simp [hi]

theorem dn_cons {s z : Int} {ds : List Int} {q : Nat} (h : (q : Int) = z + 1) : (s :: ds).getD q 0 = dn s ds z := by
  unfold dn
  cases q with
  | zero => rw [if_pos (by omega)]; rfl
  | succ q => rw [if_neg (by omega), cons_getDs]; congr 1; omega
/-- The numbers ahead of (i, j) are laid. -/
structure Sqr (s : Int) (ds : List Int) (t i j : Nat) (C : List Int) : Prop where
  len : C.length = 25
  bd : ∀ x ∈ C, 0 ≤ x ∧ x ≤ 18446744073709551615
  val : ∀ a b : Nat, a ≤ b → b ≤ t → (a < i ∨ (a = i ∧ b < j)) → C.getD (a * 5 + b) 0 = dn s ds (nd2 t a + ((b : Int) - a)) ∧ C.getD (b * 5 + a) 0 = dn s ds (nd2 t a + ((b : Int) - a))
theorem sqr_start (s : Int) (ds : List Int) (t : Nat) : Sqr s ds t 0 0 (List.replicate 25 0) :=
  ⟨by simp, fun x hx => by rw [List.eq_of_mem_replicate hx]; omega, fun a b _ _ h => by omega⟩
theorem sqr_step {s v : Int} {ds C : List Int} {t i j : Nat} (h : Sqr s ds t i j C) (ht : t ≤ 4) (hij : i ≤ j) (hj : j ≤ t) (hv : v = dn s ds (nd2 t i + ((j : Int) - i))) (hv0 : 0 ≤ v) (hv1 : v ≤ 18446744073709551615) : Sqr s ds t i (j + 1) ((C.set (i * 5 + j) v).set (j * 5 + i) v) := by
  have hl := h.len
  refine ⟨by simp [hl], bd_set (bd_set h.bd _ ⟨hv0, hv1⟩) _ ⟨hv0, hv1⟩, fun a b hab hb hd => ?_⟩
  by_cases e : a = i ∧ b = j
  · obtain ⟨rfl, rfl⟩ := e
    rw [getD_set, getD_set, getD_set, getD_set, ← hv]
    rw [List.length_set, hl]
    refine ⟨?_, ?_⟩
    · by_cases e : b * 5 + a = a * 5 + b
      · rw [if_pos ⟨e, by omega⟩]
      · rw [if_neg (fun h => e h.1), if_pos ⟨rfl, by omega⟩]
    · rw [if_pos ⟨rfl, by omega⟩]
  · have := h.val a b hab hb (by omega)
    rw [getD_set, getD_set, getD_set, getD_set]
    rw [if_neg (fun h => by omega), if_neg (fun h => by omega), if_neg (fun h => by omega), if_neg (fun h => by omega)]
    exact this
theorem sqr_row {s : Int} {ds C : List Int} {t i j : Nat} (h : Sqr s ds t i j C) (hj : t < j) : Sqr s ds t (i + 1) (i + 1) C :=
  ⟨h.len, h.bd, fun a b hab hb hd => h.val a b hab hb (by omega)⟩
theorem sqr_end {s : Int} {ds C : List Int} {t i j a b : Nat} (h : Sqr s ds t i j C) (hi : t < i) (ha : a ≤ t) (hb : b ≤ t) : nm (C.getD (a * 5 + b) 0) = A2 s ds t a b := by
  unfold A2
  by_cases e : a ≤ b
  · rw [if_pos e, (h.val a b e hb (by omega)).1]
  · rw [if_neg e, (h.val b a (by omega) ha (by omega)).2]
/-- Row j of it tells the row's number j. -/
theorem sqr_ev {s : Int} {ds C : List Int} {t i j k : Nat} (h : Sqr s ds t i j C) (hi : t < i) (hk : k ≤ t) (x : Int) : nm (ev ((C.drop (k * 5)).take (t + 1)) x) = nm (ev (colA s ds t k) x) := by
  refine ev_congr _ _ _ fun q => ?_
  by_cases hq : q ≤ t
  · rw [colA_getD s ds t k hq, take_getD, if_pos (by omega), A2_sym, ← sqr_end h hi hk hq, nm_nm]
    congr 1
    simp
  · rw [getD_big (show (colA s ds t k).length ≤ q by rw [colA_len]; omega), take_getD, if_neg (by omega)]
/-- What is left of a list when its first number is taken. -/
theorem Rd.tail {w : World} {b o n c : Nat} {xs : List Int} {a : Option Addr} (h : Rd w (some ⟨b, o, none⟩) (n + 1) (c + 1) xs) (ha : (0 < n → a = some ⟨b, o + 1, none⟩) ∧ a ≠ none) : Rd w a n c (xs.drop 1) := by
  have h1 := h.cap
  have h2 := h.max
  refine ⟨by have := h.len; simp; omega, by omega, by omega, fun x hx => h.bd x (List.mem_of_mem_drop hx), fun e => absurd e ha.2, fun x hx i hi => ?_⟩
  rw [ha.1 (by omega)] at hx
  obtain rfl := Option.some.inj hx
  have := h.cell _ rfl (i + 1) (by omega)
  rw [Addr.add_lit] at this ⊢
  rw [show o + 1 + i = o + (i + 1) by omega, this]
  congr 2
  simp
theorem cTwNeed (t : Int) (w : World) : Calls Try.prog 21 #[.int .i64 t] w fun e w' => Nds t w e w' := by
  by_cases h1 : t < 0
  · have HT : Hid (t < 0 ∨ 4 < t) := .inl h1
    go_enter Try.func21, Try.ntmps21
    go_wp2
    go_ret2
    exact ⟨.inl ⟨HT.out, rfl⟩, Below.refl _ _⟩
  · by_cases h2 : 4 < t
    · have HT : Hid (t < 0 ∨ 4 < t) := .inr h2
      go_enter Try.func21, Try.ntmps21
      go_wp2
      go_ret2
      exact ⟨.inl ⟨HT.out, rfl⟩, Below.refl _ _⟩
    · have hk : t = 0 ∨ t = 1 ∨ t = 2 ∨ t = 3 ∨ t = 4 := by omega
      clear h1 h2
      rcases hk with rfl | rfl | rfl | rfl | rfl
      · go_enter Try.func21, Try.ntmps21
        go_wp2
        go_ret2
        exact ⟨.inr ⟨0, rfl, by omega, rfl⟩, Below.refl _ _⟩
      · go_enter Try.func21, Try.ntmps21
        go_wp2
        go_ret2
        exact ⟨.inr ⟨1, rfl, by omega, rfl⟩, Below.refl _ _⟩
      · go_enter Try.func21, Try.ntmps21
        go_wp2
        go_ret2
        exact ⟨.inr ⟨2, rfl, by omega, rfl⟩, Below.refl _ _⟩
      · go_enter Try.func21, Try.ntmps21
        go_wp2
        go_ret2
        exact ⟨.inr ⟨3, rfl, by omega, rfl⟩, Below.refl _ _⟩
      · go_enter Try.func21, Try.ntmps21
        go_wp2
        go_ret2
        exact ⟨.inr ⟨4, rfl, by omega, rfl⟩, Below.refl _ _⟩

theorem cTwValue (a : Option Addr) (n c : Nat) (xs : List Int) (x : Nat) (w : World) (h : Rd w a n c xs) (hn : n ≤ 40) (hx : x ≤ 100) :
    Calls Try.prog 76 #[.slice a n c, .int .i64 x] w fun e w' => e = .returned (.int .u64 (nm (ev xs x))) ∧ Below w.heap.size w w' := by
  go_enter Try.func76, Try.ntmps76
  go_wp2_with fail
  refine (cEvalOK _ _ _ _ _ _ h hn (by omega) (by omega)).mono ?_
  rintro e w1 ⟨rfl, hb1⟩
  go_wp2
  go_ret
  exact ⟨rfl, hb1⟩

theorem cAllHave (a : Option Addr) (n c : Nat) (l : List (Int × List Int)) (k : Nat) (w : World) (h : RdW w a n c l) :
    Calls Try.prog 50 #[.slice a n c, .int .i64 k] w fun e w' => Tells (∀ i, i < n → (tc l i).length = k) w e w' := by
  have hcap := h.cap
  have hmax := h.max
  unfold maxLen at hmax
  go_enter Try.func50, Try.ntmps50
  go_wp2
  go_loopw [9] (fun i wr => ∃ q : Nat, q ≤ n ∧ i = .int .i64 q ∧ Hid (∀ i, i < q → (tc l i).length = k) ∧ Below w.heap.size w wr) (fun i _ => n - (intOf i).toNat)
  case atStart => exact ⟨0, Nat.zero_le _, rfl, fun i hi => by omega, Below.refl _ _⟩
  case round =>
    obtain ⟨q, hq, rfl, HQ, hbel⟩ := hrel
    have hs1 := hbel.size
    by_cases hlt : q < n
    · obtain ⟨b, o, x, ai, ni, ci, row, rfl, hbb, HX, HRow, hx0, hx1, hcx, hcr, hrow⟩ := (h.below hbel).one hlt
      have hnl := hrow.len
      have hnc := hrow.cap
      have hnm := hrow.max
      unfold maxLen at hnm
      have HNL : Hid ((tc l q).length = ni) := by unfold Hid; rw [HRow.out]; exact hnl
      have hbA := hbel.alloc hs1 (.cells #[.int .i64 x, .slice ai ni ci] 55)
      have hcA1 := cell_alloc1 wr (.int .i64 x) (.slice ai ni ci) 55
      by_cases hni : ni = k
      · have hnb : ((ni : Int) != (k : Int)) = false := by rw [bne_eq_false_iff_eq]; omega
        have HQ2 : Hid (∀ i, i < q + 1 → (tc l i).length = k) := fun i hi => by
          by_cases e : i = q
          · rw [e, HNL.out]; exact hni
          · exact HQ.out i (by omega)
        clear hni
        go_wp2
        go_roundw
        case rel => exact ⟨q + 1, by omega, by go_num, HQ2, hbA⟩
        case measure => simp [intOf]; omega
      · have hnb : ((ni : Int) != (k : Int)) = true := by rw [bne_iff_ne]; omega
        have HN : Hid (¬ ∀ i, i < n → (tc l i).length = k) := fun hh => hni (by have := hh q hlt; rw [HNL.out] at this; exact this)
        clear hni
        go_wp2
        go_ret
        exact .no HN.out hbA
    · have hqn : q = n := by omega
      subst hqn
      go_wp2
      go_ret
      exact .yes HQ.out hbel
/-- A row of the call's own, all of it. -/
theorem Blk.own {w : World} {g n B : Nat} {L : List Int} (h : Blk w g L) (hl : L.length = n) (hB : B ≤ g) (hn : n ≤ 1000) : w.ownsRow B 22 1 (.slice (some ⟨g, 0, none⟩) n n) n (L.map (Value.int .u64)) :=
  ⟨by simp [hl], .inr ⟨g, n, _, rfl, hB, h, Nat.le_refl _, by unfold maxLen; omega, by simp [hl], by rw [List.take_of_length_le (by simp [hl])]⟩⟩

theorem cSqRow (g : Nat) (C : List Int) (s : Int) (ds : List Int) (t x : Nat) (w : World) (h : BlkQ w g C) (hS : Sqr s ds t (t + 1) (t + 1) C) (ht : t ≤ 4) (hx : x ≤ 9) :
    Calls Try.prog 45 #[.pointer (some ⟨g, 0, none⟩), .int .i64 t, .int .i64 x] w fun e w' => ∃ u, e = .returned (.slice (some ⟨u, 0, none⟩) (t + 1) (t + 1)) ∧ w'.ownsRow w.heap.size 22 1 (.slice (some ⟨u, 0, none⟩) (t + 1) (t + 1)) (t + 1) ((rowK s ds t x (t + 1)).map (Value.int .u64)) ∧ Below w.heap.size w w' := by
  obtain ⟨i0, hi, hz0, hz1, hz2⟩ := info_parts info22
  have HS : Hid (Sqr s ds t (t + 1) (t + 1) C) := hS
  have hglt := h.lt
  clear hS
  obtain ⟨T, HT⟩ : ∃ T, Hid (t + 1 = T) := ⟨_, rfl⟩
  obtain ⟨F, HF⟩ : ∃ F : Nat → Int, Hid ((fun j => nm (ev (colA s ds t j) x)) = F) := ⟨_, rfl⟩
  have HRK : Hid (rowK s ds t x (t + 1) = (List.range T).map F) := by unfold Hid rowK; rw [HT.out, HF.out]
  rw [HRK.out, HT.out]
  have hT5 : T ≤ 5 := by rw [← HT.out]; omega
  have HTi : Hid ((t : Int) + 1 = (T : Int)) := by unfold Hid; rw [← HT.out]; push_cast; rfl
  go_enter Try.func45, Try.ntmps45
  go_wp2_with (at_make; refine wpList_make_full _ rfl _ _ 23 rfl w.heap.size 22 i0 (.int .u64 0) 1 Try.underlying23 hi hz0 hz1 .i64 .i64 _ _ T rfl rfl HTi.out HTi.out (by rw [hz2]; omega) (by unfold maxLen; omega) (Nat.le_refl _) ?_; intro w2 hown hgrow)
  have hB2 : Blk w2 w.heap.size (fil F T 0) := by rw [← fil_zero]; exact Blk.made hown
  have hb2 : Below w.heap.size w w2 := (Below.refl _ _).grown hgrow (Nat.le_refl _) (by simp)
  clear hown hgrow
  go_loopw [14] (fun i wr => ∃ k : Nat, k ≤ T ∧ i = .int .i64 k ∧ Blk wr w.heap.size (fil F T k) ∧ Below w.heap.size w wr) (fun i _ => T - (intOf i).toNat)
  case atStart => exact ⟨0, Nat.zero_le _, rfl, hB2, hb2⟩
  case round =>
    clear hB2 hb2
    obtain ⟨k, hk, rfl, hblk, hbel⟩ := hrel
    by_cases hlt : k < T
    · have hq := h.below hbel hglt
      have hql := hq.lt
      have hl := HS.out.len
      have hrd := hq.rd (k * 5) T 5 hT5 (by unfold maxLen; omega) (by omega) HS.out.bd
      have HV : Hid (nm (ev ((C.drop (k * 5)).take T) x) = F k) := by unfold Hid; rw [← HT.out, sqr_ev HS.out (by omega) (by rw [← HT.out] at hlt; omega), ← HF.out]
      have hk5 : k < 5 := by omega
      have hal : Try.prog.arrayLen 82 = 5 := by simp [Program.arrayLen, Try.underlying82]
      have HTn : Hid (((t : Int) + 1).toNat = T) := by unfold Hid; rw [HTi.out]; rfl
      have hsl : ∀ W, (Instr.sliceAt 82 (.pointer (some ⟨g, k * 5, none⟩)) none (some (.int .i64 ((t : Int) + 1))) none).run Try.prog W = .ok (.slice (some ⟨g, k * 5, none⟩) T 5) W := fun W => by
        rw [run_sliceAt_array_h W 82 ⟨g, k * 5, none⟩ (by simp [Program.arrayLen, Program.elem, Try.underlying82]) .i64 ((t : Int) + 1) (by omega) (by rw [hal]; omega), HTn.out, hal, show Try.prog.elem 82 = 22 from by simp [Program.elem, Try.underlying82]]
        go_simp
      clear hal
      go_wp2_with fail
      refine (cTwValue _ _ _ _ _ _ hrd (by omega) (by omega)).mono ?_
      rintro e w3 ⟨rfl, hb3⟩
      rw [HV.out]
      have hblk3 := hblk.below hb3 hblk.lt
      have hcell := hblk3.cell (i := k) (by rw [fil_len]; exact hlt)
      have hfz := hblk3.frozen k
      have hlt3 := hblk3.lt
      have hblk4 := hblk3.set k (F k)
      rw [fil_set rfl] at hblk4
      have hbel3 := hbel.trans (hb3.mono hbel.size)
      have Hb4 : Hid (Below w.heap.size w (w3.setCell ⟨w.heap.size, k, none⟩ (.int .u64 (F k)))) := hbel3.setCell (Nat.le_refl _) _
      clear hbel hb3 hblk hblk3 hbel3 hrd
      go_wp2
      go_roundw
      case rel => exact ⟨k + 1, by omega, by go_num, hblk4, Hb4.out⟩
      case measure => simp [intOf]; omega
    · have hkn : k = T := by omega
      subst hkn
      rw [fil_full] at hblk
      have ho := hblk.own (n := k) (B := w.heap.size) (by simp) (Nat.le_refl _) (by omega)
      go_wp2
      go_ret
      exact ⟨_, rfl, ho, hbel⟩
/-- No row. -/
def nil10 : List Value := List.replicate 10 (.slice none 0 0)
/-- Block g holds the table S. -/
def BlkV (w : World) (g : Nat) (S : List Value) : Prop := w.heap[g]? = some (.cells S.toArray 88 (0, 0))
theorem BlkV.lt {w : World} {g : Nat} {S : List Value} (h : BlkV w g S) : g < w.heap.size := (Array.getElem?_eq_some_iff.1 h).1
theorem BlkV.cell {w : World} {g : Nat} {S : List Value} (h : BlkV w g S) {i : Nat} {v : Value} (hi : S[i]? = some v) : w.cell? ⟨g, i, none⟩ = some v := by
  rw [cell_of_row w g i _ _ (0, 0) h]
  simpa using hi
theorem BlkV.frozen {w : World} {g : Nat} {S : List Value} (h : BlkV w g S) (i : Nat) : w.frozen? ⟨g, i, none⟩ = false := frozen_of_row w g i _ _ h
theorem BlkV.set {w : World} {g : Nat} {S : List Value} (h : BlkV w g S) (i : Nat) (v : Value) : BlkV (w.setCell ⟨g, i, none⟩ v) g (S.set i v) := by
  have := heap_setCell_same w g i _ _ v h
  unfold BlkV
  rw [this]
  simp
theorem BlkV.below {w w' : World} {B g : Nat} {S : List Value} (h : BlkV w g S) (hb : Below B w w') (hg : g < B) : BlkV w' g S := by
  unfold BlkV; rw [hb.block g hg]; exact h
theorem BlkV.other {w : World} {g g' i : Nat} {S : List Value} {v : Value} (h : BlkV w g S) (hg : g' ≠ g) : BlkV (w.setCell ⟨g', i, none⟩ v) g S := by
  unfold BlkV; rw [heap_setCell_other w ⟨g', i, none⟩ g v (fun e => hg e.symm)]; exact h

/-- The table has the first k rows of l, each at its party. -/
structure Pt (w : World) (l : List (Int × List Int)) (k : Nat) (S : List Value) : Prop where
  len : S.length = 10
  row : ∀ p : Nat, p < 10 → ∃ a m c, S[p]? = some (.slice a m c) ∧ m ≤ 5 ∧ ((m = 0 ∧ ∀ r, r < k → ta l r ≠ (p : Int)) ∨ (∃ r, r < k ∧ ta l r = (p : Int) ∧ 1 ≤ m ∧ Rd w a m c (tc l r)))
  rwk : Rwk l k
theorem Pt.below {w w' : World} {l : List (Int × List Int)} {k : Nat} {S : List Value} (h : Pt w l k S) (hb : Below w.heap.size w w') : Pt w' l k S := by
  refine ⟨h.len, fun p hp => ?_, h.rwk⟩
  obtain ⟨a, m, c, h1, h2, h3⟩ := h.row p hp
  refine ⟨a, m, c, h1, h2, ?_⟩
  rcases h3 with h3 | ⟨r, r1, r2, r3, r4⟩
  · exact .inl h3
  · exact .inr ⟨r, r1, r2, r3, r4.below hb⟩
theorem pt_start (w : World) (l : List (Int × List Int)) : Pt w l 0 nil10 :=
  ⟨rfl, fun p hp => ⟨none, 0, 0, by unfold nil10; rw [List.getElem?_replicate, if_pos hp], by omega, .inl ⟨rfl, fun r hr => by omega⟩⟩, rwk_zero l⟩
theorem pt_step {w : World} {l : List (Int × List Int)} {k p m c c0 : Nat} {S : List Value} {a a0 : Option Addr} (h : Pt w l k S) (hp : ta l k = (p : Int)) (h1 : 1 ≤ p) (h9 : p ≤ 9) (hr : Rd w a m c (tc l k)) (m1 : 1 ≤ m) (m5 : m ≤ 5) (hS : S[p]? = some (.slice a0 0 c0)) : Pt w l (k + 1) (S.set p (.slice a m c)) := by
  have hno : ∀ r, r < k → ta l r ≠ (p : Int) := by
    obtain ⟨a', m', c', e1, e2, e3⟩ := h.row p (by omega)
    rw [hS] at e1
    simp only [Option.some.injEq, Value.slice.injEq] at e1
    obtain ⟨rfl, rfl, rfl⟩ := e1
    rcases e3 with e3 | ⟨r, _, _, e4, _⟩
    · exact e3.2
    · omega
  have hl := h.len
  refine ⟨by rw [List.length_set]; exact hl, fun q hq => ?_, rwk_succ h.rwk hp hr.len (by omega) (by omega) m1 m5 hno⟩
  by_cases e : q = p
  · subst e
    exact ⟨a, m, c, by rw [List.getElem?_set_self (by omega)], m5, .inr ⟨k, by omega, hp, m1, hr⟩⟩
  · obtain ⟨a', m', c', e1, e2, e3⟩ := h.row q hq
    refine ⟨a', m', c', by rw [List.getElem?_set_ne (fun e' => e e'.symm)]; exact e1, e2, ?_⟩
    rcases e3 with ⟨e3, e4⟩ | ⟨r, e3, e4, e5, e6⟩
    · refine .inl ⟨e3, fun r hr => ?_⟩
      by_cases er : r = k
      · rw [er, hp]; omega
      · exact e4 r (by omega)
    · exact .inr ⟨r, by omega, e4, e5, e6⟩
theorem pt_twice {w : World} {l : List (Int × List Int)} {k n p m c : Nat} {S : List Value} {a : Option Addr} (h : Pt w l k S) (hk : k < n) (hp : ta l k = (p : Int)) (h9 : p ≤ 9) (hS : S[p]? = some (.slice a m c)) (hm : 0 < m) : ¬ Rwk l n := fun hR => by
  obtain ⟨a', m', c', e1, e2, e3⟩ := h.row p (by omega)
  rw [hS] at e1
  simp only [Option.some.injEq, Value.slice.injEq] at e1
  obtain ⟨rfl, rfl, rfl⟩ := e1
  rcases e3 with e3 | ⟨r, e4, e5, _, _⟩
  · omega
  · exact (hR k hk).1.2 r e4 (by rw [e5, hp])
theorem nil10_one : (nil10.toArray.all (·.oneCell')) = true := by
  rw [Array.all_eq_true_iff_forall_mem]
  intro v hv
  obtain rfl := List.eq_of_mem_replicate (show v ∈ List.replicate 10 _ from (by simpa [nil10] using hv : v ∈ nil10))
  rfl
theorem Pt.one {w : World} {l : List (Int × List Int)} {k : Nat} {S : List Value} (h : Pt w l k S) : (S.toArray.all (·.oneCell')) = true := by
  rw [Array.all_eq_true_iff_forall_mem]
  intro v hv
  obtain ⟨i, hi, rfl⟩ := List.getElem_of_mem (show v ∈ S by simpa using hv)
  obtain ⟨a, m, c, h1, _⟩ := h.row i (by have := h.len; omega)
  rw [List.getElem?_eq_getElem hi] at h1
  rw [Option.some.inj h1]
  rfl
theorem Pt.size {w : World} {l : List (Int × List Int)} {k : Nat} {S : List Value} (h : Pt w l k S) : S.toArray.size = 10 := by simpa using h.len
/-- What byParty answers. -/
def Byp (l : List (Int × List Int)) (n : Nat) (w : World) (e : Ending) (w' : World) : Prop :=
  ((∃ S, Pt w' l n S ∧ e = .returned (.tuple #[.agg S.toArray, .bool true])) ∨ (¬ Rwk l n ∧ e = .returned (.tuple #[.agg nil10.toArray, .bool false]))) ∧ Below w.heap.size w w'
theorem results_two {P : Program} {fn : Func} {p q : Tmp} {ty : TypeId} (h : fn.results = #[.cell p ty, .tmp q]) {tmps : Array Value} {w : World} {g : Nat} {v u : Value} (hl : (loadVar ty ⟨g, 0, none⟩).run P w = .ok v w)
    (hp : tmps.getD p undef = .pointer (some ⟨g, 0, none⟩)) (hq : tmps.getD q undef = u) : (results fn tmps).run P w = .ok (.tuple #[v, u]) w := by
  have hp' : tmps[p]?.getD undef = .pointer (some ⟨g, 0, none⟩) := by simpa using hp
  have hq' : tmps[q]?.getD undef = u := by simpa using hq
  simp [results, h, hp', hq', asAddr, hl]
theorem infoPt : (Try.prog.info? 88).map (·.size) = some 10 := by kernel_rfl
theorem by_new (w : World) : BlkV ((w.alloc (.cells nil10.toArray 88)).alloc (.cells nil10.toArray 88)) w.heap.size nil10 ∧ BlkV ((w.alloc (.cells nil10.toArray 88)).alloc (.cells nil10.toArray 88)) (w.heap.size + 1) nil10 ∧ Below w.heap.size w ((w.alloc (.cells nil10.toArray 88)).alloc (.cells nil10.toArray 88)) := by
  have h1 : BlkV (w.alloc (.cells nil10.toArray 88)) w.heap.size nil10 := heap_alloc_new w _
  have h2 : BlkV ((w.alloc (.cells nil10.toArray 88)).alloc (.cells nil10.toArray 88)) (w.alloc (.cells nil10.toArray 88)).heap.size nil10 := heap_alloc_new _ _
  have e : (w.alloc (.cells nil10.toArray 88)).heap.size = w.heap.size + 1 := by simp
  rw [e] at h2
  exact ⟨h1.below ((Below.refl _ _).alloc (Nat.le_refl _) _) h1.lt, h2, ((Below.refl _ _).alloc (Nat.le_refl _) _).alloc (by simp) _⟩

theorem cByParty (a : Option Addr) (n c : Nat) (l : List (Int × List Int)) (w : World) (h : RdW w a n c l) :
    Calls Try.prog 46 #[.slice a n c] w fun e w' => Byp l n w e w' := by
  have hcap := h.cap
  have hmax := h.max
  unfold maxLen at hmax
  go_enter Try.func46, Try.ntmps46
  go_wp2
  go_loopw [9] (fun i wr => ∃ (k : Nat) (S : List Value), k ≤ n ∧ i = .int .i64 k ∧ BlkV wr w.heap.size nil10 ∧ BlkV wr (w.heap.size + 1) S ∧ Hid (Pt w l k S) ∧ Below w.heap.size w wr) (fun i _ => n - (intOf i).toNat)
  case atStart => exact ⟨0, nil10, Nat.zero_le _, rfl, (by_new w).1, (by_new w).2.1, pt_start w l, (by_new w).2.2⟩
  case round =>
    obtain ⟨k, S, hk, rfl, hB0, hB1, HP, hbel⟩ := hrel
    have hs1 := hbel.size
    by_cases hlt : k < n
    · obtain ⟨b, o, x, ai, ni, ci, row, rfl, hbb, HX, HRow, hx0, hx1, hcx0, hcr0, hrow⟩ := h.one hlt
      have hcx := hcx0
      rw [← hbel.cell (p := ⟨b, o + k * 2, none⟩) hbb] at hcx
      have hcr := hcr0
      rw [← hbel.cell (p := ⟨b, o + k * 2 + 1, none⟩) hbb] at hcr
      have hnl := hrow.len
      have hnc := hrow.cap
      have hnm := hrow.max
      unfold maxLen at hnm
      have hbA0 : Below wr.heap.size wr (wr.alloc (.cells #[.int .i64 x, .slice ai ni ci] 55)) := (Below.refl _ _).alloc (Nat.le_refl _) _
      have hbA := hbel.trans (hbA0.mono hs1)
      have hA0 := hB0.below hbA0 hB0.lt
      have hA1 := hB1.below hbA0 hB1.lt
      have hcA0 := cell_alloc0 wr (.int .i64 x) (.slice ai ni ci) 55
      have hcA1 := cell_alloc1 wr (.int .i64 x) (.slice ai ni ci) 55
      have hbZ := below_setRow hbA (Nat.le_refl _) nil10.toArray
      have HZ : Hid (_ = _) := run_loadVar_row (P := Try.prog) _ w.heap.size 88 88 nil10.toArray (0, 0) _ (setRow_heap _ w.heap.size _ nil10.toArray _ (0, 0) hA0) Try.underlying88 rfl infoPt
      clear hbA0 hB0 hB1
      by_cases hx2 : x < 1
      · have HN : Hid (¬ Rwk l n) := fun hk => by have := (hk k hlt).1.1; rw [HX.out] at this; omega
        go_wp2_with (refine wpList_store_row rfl 88 _ _ rfl w.heap.size nil10.toArray rfl rfl 88 nil10.toArray hA0 infoPt rfl nil10_one ?_)
        exact bodyPost_ret (v := .tuple #[.agg nil10.toArray, .bool false]) (results_two Try.results46 HZ.out rfl rfl) rfl ⟨.inr ⟨HN.out, rfl⟩, hbZ⟩
      · by_cases hx9 : 9 < x
        · have HN : Hid (¬ Rwk l n) := fun hk => by have := (hk k hlt).1.1; rw [HX.out] at this; omega
          go_wp2_with (refine wpList_store_row rfl 88 _ _ rfl w.heap.size nil10.toArray rfl rfl 88 nil10.toArray hA0 infoPt rfl nil10_one ?_)
          exact bodyPost_ret (v := .tuple #[.agg nil10.toArray, .bool false]) (results_two Try.results46 HZ.out rfl rfl) rfl ⟨.inr ⟨HN.out, rfl⟩, hbZ⟩
        · obtain ⟨p, rfl⟩ : ∃ p : Nat, x = p := ⟨x.toNat, by omega⟩
          obtain ⟨a0, m0, c0, hS0, hm5, hm0⟩ := HP.out.row p (by omega)
          have hcS := hA1.cell hS0
          have hltA := hA1.lt
          by_cases hm : 0 < m0
          · have HN : Hid (¬ Rwk l n) := pt_twice HP.out hlt HX.out (by omega) hS0 hm
            clear hm0
            go_wp2_with (refine wpList_store_row rfl 88 _ _ rfl w.heap.size nil10.toArray rfl rfl 88 nil10.toArray hA0 infoPt rfl nil10_one ?_)
            exact bodyPost_ret (v := .tuple #[.agg nil10.toArray, .bool false]) (results_two Try.results46 HZ.out rfl rfl) rfl ⟨.inr ⟨HN.out, rfl⟩, hbZ⟩
          · obtain rfl : m0 = 0 := by omega
            clear hm0 hm hm5
            by_cases hn1 : ni < 1
            · have HN : Hid (¬ Rwk l n) := fun hk => by have := (hk k hlt).2; rw [HRow.out, hnl] at this; omega
              go_wp2_with (refine wpList_store_row rfl 88 _ _ rfl w.heap.size nil10.toArray rfl rfl 88 nil10.toArray hA0 infoPt rfl nil10_one ?_)
              exact bodyPost_ret (v := .tuple #[.agg nil10.toArray, .bool false]) (results_two Try.results46 HZ.out rfl rfl) rfl ⟨.inr ⟨HN.out, rfl⟩, hbZ⟩
            · by_cases hn5 : 5 < ni
              · have HN : Hid (¬ Rwk l n) := fun hk => by have := (hk k hlt).2; rw [HRow.out, hnl] at this; omega
                go_wp2_with (refine wpList_store_row rfl 88 _ _ rfl w.heap.size nil10.toArray rfl rfl 88 nil10.toArray hA0 infoPt rfl nil10_one ?_)
                exact bodyPost_ret (v := .tuple #[.agg nil10.toArray, .bool false]) (results_two Try.results46 HZ.out rfl rfl) rfl ⟨.inr ⟨HN.out, rfl⟩, hbZ⟩
              · have HP2 : Hid (Pt w l (k + 1) (S.set p (.slice ai ni ci))) := pt_step HP.out HX.out (by omega) (by omega) (by rw [HRow.out]; exact hrow) (by omega) (by omega) hS0
                have hfz := hA1.frozen p
                have Hs1 : Hid (BlkV _ _ _) := hA1.set p (.slice ai ni ci)
                have Hs0 : Hid (BlkV _ _ _) := hA0.other (g' := w.heap.size + 1) (i := p) (v := .slice ai ni ci) (by omega)
                have Hsb : Hid (Below _ _ _) := hbA.setCell (p := ⟨w.heap.size + 1, p, none⟩) (by simp) (.slice ai ni ci)
                clear hA0 hA1 hbA hbZ HZ hS0 hbel
                go_wp2
                go_roundw
                case rel => exact ⟨k + 1, _, by omega, by go_num, Hs0.out, Hs1.out, HP2, Hsb.out⟩
                case measure => simp [intOf]; omega
    · have hkn : k = n := by omega
      subst hkn
      have hsz := HP.out.size
      have hin : (Try.prog.info? 88).map (·.size) = some S.toArray.size := by rw [hsz]; exact infoPt
      have hon := HP.out.one
      have hne : nil10.toArray.size = S.toArray.size := by rw [hsz]; rfl
      have hbZ := below_setRow hbel (Nat.le_refl _) S.toArray
      have HZ : Hid (_ = _) := run_loadVar_row (P := Try.prog) _ w.heap.size 88 88 S.toArray (0, 0) _ (setRow_heap _ w.heap.size _ S.toArray _ (0, 0) hB0) Try.underlying88 rfl hin
      have HE : Hid (Byp l k w (.returned (.tuple #[.agg S.toArray, .bool true])) (wr.setRow w.heap.size S.toArray)) := ⟨.inl ⟨S, HP.out.below hbZ, rfl⟩, hbZ⟩
      have Hin : Hid (_ = _) := hin
      have Hne : Hid (_ = _) := hne
      have Hon : Hid (_ = _) := hon
      clear hsz hin hne hon hbZ
      go_wp2_with (first | (refine wpList_load_row rfl 88 _ rfl (w.heap.size + 1) rfl 88 S.toArray (0, 0) _ hB1 Try.underlying88 rfl Hin.out ?_) | (refine wpList_store_row rfl 88 _ _ rfl w.heap.size S.toArray rfl rfl 88 nil10.toArray hB0 Hin.out Hne.out Hon.out ?_))
      exact bodyPost_ret (v := .tuple #[.agg S.toArray, .bool true]) (results_two Try.results46 HZ.out rfl rfl) rfl HE.out
theorem cBothTw (g i j : Nat) (S : List Value) (a b : Option Addr) (m k c d : Nat) (w : World) (h : BlkV w g S) (hi : S[i]? = some (.slice a m c)) (hj : S[j]? = some (.slice b k d)) (hi9 : i < 10) (hj9 : j < 10) :
    Calls Try.prog 77 #[.pointer (some ⟨g, 0, none⟩), .int .i64 i, .int .i64 j] w fun e w' => e = .returned (.bool (decide (0 < m) && decide (0 < k))) ∧ w' = w := by
  have ci := h.cell hi
  have cj := h.cell hj
  have hlt := h.lt
  by_cases hm : 0 < m
  · by_cases hk : 0 < k
    · go_enter Try.func77, Try.ntmps77
      go_wp2
      go_ret
      simp [hm, hk]
    · obtain rfl : k = 0 := by omega
      go_enter Try.func77, Try.ntmps77
      go_wp2
      go_ret
      simp
  · obtain rfl : m = 0 := by omega
    go_enter Try.func77, Try.ntmps77
    go_wp2
    go_ret
    simp

theorem cBothY (g i j : Nat) (S : List Value) (a b : Option Addr) (m k c d : Nat) (w : World) (h : BlkV w g S) (hi : S[i]? = some (.slice a m c)) (hj : S[j]? = some (.slice b k d)) (hi9 : i < 10) (hj9 : j < 10) (hm : 0 < m) (hk : 0 < k) :
    Calls Try.prog 77 #[.pointer (some ⟨g, 0, none⟩), .int .i64 i, .int .i64 j] w fun e w' => e = .returned (.bool true) ∧ w' = w := by
  refine (cBothTw g i j S a b m k c d w h hi hj hi9 hj9).mono ?_
  rintro e w' ⟨rfl, rfl⟩
  simp [hm, hk]
theorem cBothN (g i j : Nat) (S : List Value) (a b : Option Addr) (m k c d : Nat) (w : World) (h : BlkV w g S) (hi : S[i]? = some (.slice a m c)) (hj : S[j]? = some (.slice b k d)) (hi9 : i < 10) (hj9 : j < 10) (hm : m = 0 ∨ k = 0) :
    Calls Try.prog 77 #[.pointer (some ⟨g, 0, none⟩), .int .i64 i, .int .i64 j] w fun e w' => e = .returned (.bool false) ∧ w' = w := by
  refine (cBothTw g i j S a b m k c d w h hi hj hi9 hj9).mono ?_
  rintro e w' ⟨rfl, rfl⟩
  rcases hm with rfl | rfl <;> simp
theorem cTwEvalQ (a : Option Addr) (n c : Nat) (xs : List Int) (x : Int) (w : World) (h : Rd w a n c xs) (hn : n ≤ 40) (hx0 : 0 ≤ x) (hx1 : x ≤ 18446744073709551615) :
    Calls Try.prog 40 #[.slice a n c, .int .u64 x] w fun e w' => e = .returned (.tuple #[.int .u64 (nm (ev xs x)), .int .i64 0]) ∧ ∃ q, w' = w.drewN q := by
  go_enter Try.func40, Try.ntmps40
  go_wp2_with (go_at_call 64; refine (cValueQ _ _ _ _ _ _ h hx0 hx1).mono ?_; rintro e w1 ⟨rfl, q, rfl⟩)
  go_ret2
  exact ⟨rfl, q, rfl⟩
theorem cTwValueQ (a : Option Addr) (n c : Nat) (xs : List Int) (x : Nat) (w : World) (h : Rd w a n c xs) (hn : n ≤ 40) (hx : x ≤ 100) :
    Calls Try.prog 76 #[.slice a n c, .int .i64 x] w fun e w' => e = .returned (.int .u64 (nm (ev xs x))) ∧ ∃ q, w' = w.drewN q := by
  go_enter Try.func76, Try.ntmps76
  go_wp2_with fail
  refine (cTwEvalQ _ _ _ _ _ _ h hn (by omega) (by omega)).mono ?_
  rintro e w1 ⟨rfl, q, rfl⟩
  go_wp2
  go_ret
  exact ⟨rfl, q, rfl⟩
theorem BlkV.drewN {w : World} {g : Nat} {S : List Value} (h : BlkV w g S) (q : Nat) : BlkV (w.drewN q) g S := h

theorem prj_start0 {l : List (Int × List Int)} {n : Nat} (hd : dis (ta l) n) : Prj l n 0 1 [] := ⟨List.Pairwise.nil, fun a b => ⟨fun h => by simp at h, fun ⟨h1, h2, h3⟩ => by have := dif_bd hd h2; omega⟩⟩

theorem cApart (g n : Nat) (l : List (Int × List Int)) (S : List Value) (w : World) (h : BlkV w g S) (hP : Pt w l n S) :
    Calls Try.prog 47 #[.pointer (some ⟨g, 0, none⟩)] w fun e w' => ∃ v L, e = .returned v ∧ w'.ownsRow w.heap.size 59 2 v L.length (ppc L) ∧ L.length ≤ 1000 ∧ Prs l n L ∧ Below w.heap.size w w' := by
  have HK : Hid (Rwk l n) := hP.rwk
  have HP0 : Hid (Pt w l n S) := hP
  have hg := h.lt
  clear hP
  go_enter Try.func47, Try.ntmps47
  go_wp2
  go_loopw [3, 6] (fun v q wr => ∃ (i : Nat) (L : List (Int × Int)), i ≤ 10 ∧ q = .int .i64 i ∧ wr.ownsRow w.heap.size 59 2 v L.length (ppc L) ∧ L.length ≤ 10 * i ∧ Hid (Prj l n i ((i : Int) + 1) L) ∧ Below w.heap.size w wr) (fun _ q _ => 10 - (intOf q).toNat)
  case atStart => exact ⟨0, [], by omega, rfl, World.ownsRow_nil _ _ _ _, by simp, prj_start0 HK.out.dis, Below.refl _ _⟩
  case round =>
    obtain ⟨i, L, hi, rfl, hown, hLl, HP, hbel⟩ := hrel
    by_cases hi10 : i < 10
    · have hid : decide ((i : Int) < 10) = true := decide_eq_true (by omega)
      go_wp2
      go_loopw [3, 5] (fun v q wr => ∃ (j : Nat) (L : List (Int × Int)), i + 1 ≤ j ∧ j ≤ 10 ∧ q = .int .i64 j ∧ wr.ownsRow w.heap.size 59 2 v L.length (ppc L) ∧ L.length ≤ 10 * i + j ∧ Hid (Prj l n i j L) ∧ Below w.heap.size w wr) (fun _ q _ => 10 - (intOf q).toNat)
      case atStart => exact ⟨i + 1, L, by omega, by omega, by go_num, hown, by omega, by push_cast; exact HP, hbel⟩
      case round =>
        clear hown hLl HP hbel
        obtain ⟨j, L, hj1, hj, rfl, hown, hLl, HP, hbel⟩ := hrel
        have hsw := hbel.size
        by_cases hj10 : j < 10
        · have hBr := h.below hbel hg
          have HPr := HP0.out.below hbel
          obtain ⟨ai, mi, ci, hSi, hmi, hri⟩ := HPr.row i (by omega)
          obtain ⟨aj, mj, cj, hSj, hmj, hrj⟩ := HPr.row j (by omega)
          have cei := hBr.cell hSi
          have cej := hBr.cell hSj
          have hgr := hBr.lt
          rcases hri with ⟨hz, hno⟩ | ⟨r, hr, her, hm1, hrdi⟩
          · have HP2 : Hid (Prj l n i ((j : Int) + 1) L) := prj_skip HP.out (dif_none1 hno)
            have HZ : Hid (mi = 0 ∨ mj = 0) := .inl hz
            clear hno hrj hz HPr
            go_wp2_with fail
            go_quiet ((go_at_call 77; exact Calls.quiet_of_same (cBothN _ _ _ _ _ _ _ _ _ _ _ (hBr.drewN _) hSi hSj (by omega) (by omega) HZ.out)))
            all_goals
              go_wp2
              go_roundw
              case rel => exact ⟨j + 1, L, by omega, by omega, by go_num, hown, by omega, by push_cast; exact HP2, drewN_below hbel _⟩
              case measure => simp [intOf]; omega
          · rcases hrj with ⟨hz, hno⟩ | ⟨s, hs, hes, hk1, hrdj⟩
            · have HP2 : Hid (Prj l n i ((j : Int) + 1) L) := prj_skip HP.out (dif_none2 hno)
              have HZ : Hid (mi = 0 ∨ mj = 0) := .inr hz
              clear hno hz HPr her hrdi
              go_wp2_with fail
              go_quiet ((go_at_call 77; exact Calls.quiet_of_same (cBothN _ _ _ _ _ _ _ _ _ _ _ (hBr.drewN _) hSi hSj (by omega) (by omega) HZ.out)))
              all_goals
                go_wp2
                go_roundw
                case rel => exact ⟨j + 1, L, by omega, by omega, by go_num, hown, by omega, by push_cast; exact HP2, drewN_below hbel _⟩
                case measure => simp [intOf]; omega
            · have HER : Hid (ta l r = (i : Int)) := her
              have HES : Hid (ta l s = (j : Int)) := hes
              clear her hes HPr
              by_cases hev : nm (ev (tc l r) (j : Int)) = nm (ev (tc l s) (i : Int))
              · have hmb : (nm (ev (tc l r) (j : Int)) != nm (ev (tc l s) (i : Int))) = false := by rw [hev]; simp
                have HP2 : Hid (Prj l n i ((j : Int) + 1) L) := prj_skip HP.out (dif_no HK.out.dis hr hs HER.out HES.out hev)
                clear hev
                go_wp2_with fail
                go_quiet ((first | (go_at_call 77; exact Calls.quiet_of_same (cBothY _ _ _ _ _ _ _ _ _ _ _ (hBr.drewN _) hSi hSj (by omega) (by omega) (by omega) (by omega))) | (go_at_call 76; first | exact Calls.quiet_of (cTwValueQ _ _ _ _ _ _ (hrdi.drewN _) (by omega) (by omega)) | exact Calls.quiet_of (cTwValueQ _ _ _ _ _ _ (hrdj.drewN _) (by omega) (by omega)))))
                all_goals
                  go_wp2
                  go_roundw
                  case rel => exact ⟨j + 1, L, by omega, by omega, by go_num, hown, by omega, by push_cast; exact HP2, drewN_below hbel _⟩
                  case measure => simp [intOf]; omega
              · have hmb : (nm (ev (tc l r) (j : Int)) != nm (ev (tc l s) (i : Int))) = true := by rw [bne_iff_ne]; exact hev
                have HP2 : Hid (Prj l n i ((j : Int) + 1) (L ++ [((i : Int), (j : Int))])) := prj_add HP.out (by omega) (dif_yes hr hs HER.out HES.out hev)
                have HLl : Hid ((L ++ [((i : Int), (j : Int))]).length = L.length + 1) := by unfold Hid; simp
                clear hev
                go_wp2_with fail
                go_quiet ((first | (go_at_call 77; exact Calls.quiet_of_same (cBothY _ _ _ _ _ _ _ _ _ _ _ (hBr.drewN _) hSi hSj (by omega) (by omega) (by omega) (by omega))) | (go_at_call 76; first | exact Calls.quiet_of (cTwValueQ _ _ _ _ _ _ (hrdi.drewN _) (by omega) (by omega)) | exact Calls.quiet_of (cTwValueQ _ _ _ _ _ _ (hrdj.drewN _) (by omega) (by omega)))))
                have hownD : (wr.drewN nq).ownsRow w.heap.size 59 2 u3 L.length (ppc L) := hown
                have hbwD := drewN_below hbel nq
                have hsD : w.heap.size ≤ (wr.drewN nq).heap.size := hsw
                generalize wr.drewN nq = wD at *
                obtain ⟨NL, HNL⟩ : ∃ NL, Hid (L.length = NL) := ⟨_, rfl⟩
                rw [HNL.out] at hownD hLl HLl
                clear hown hbel hsw hrdi hrdj cei cej hBr hSi hSj
                go_wp2_with (at_builtin; refine wpList_app2 Try.underlying50 infoPair rfl (by omega) _ rfl _ _ rfl w.heap.size _ _ _ rfl hownD (.int .i64 i) (.int .i64 j) rfl rfl rfl (by omega) hsD ?_; intro v7 w7 hown7 hgr7 _; rw [ppc_snoc] at hown7; have hb7 := hbwD.grown hgr7 hsD (fun q hq => (hownD.lt q hq).1); clear hgr7 hownD hbwD)
                go_roundw
                case rel => exact ⟨j + 1, _, by omega, by omega, by go_num, by rw [HLl.out]; exact hown7, by rw [HLl.out]; omega, by push_cast; exact HP2, hb7⟩
                case measure => simp [intOf]; omega
        · have hj2 : j = 10 := by omega
          subst hj2
          have HP2 : Hid (Prj l n ((i : Int) + 1) ((i : Int) + 2) L) := prj_next HK.out.dis HP.out
          go_wp2
          go_roundw
          case rel => exact ⟨i + 1, L, by omega, by go_num, hown, by omega, by have := HP2.out; push_cast; rw [show (i : Int) + 1 + 1 = (i : Int) + 2 by omega]; exact this, hbel⟩
          case measure => simp [intOf]; omega
    · have hi2 : i = 10 := by omega
      subst hi2
      have HE : Hid (Prs l n L) := prj_end HK.out.dis HP.out
      go_wp2
      go_ret
      exact ⟨_, L, rfl, hown, by omega, HE.out, hbel⟩
end
end Go.Proofs.Ytljlioglpaogdae

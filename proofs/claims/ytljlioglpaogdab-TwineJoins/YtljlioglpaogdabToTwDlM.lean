/- twine.starts: lists of two-cell elements that are made and then written. · A list of rows that is made and then filled. -/
import Derived.Test.YtljlioglpaogdabToTJoinM
import Derived.Test.YtljlioglpaogdabToRefPolyC
import Derived.Test.YtljlioglpaogdabToTwByC
import Derived.Deep.RegionHeld3
namespace Go.Proofs.Ytljlioglpaogdab
set_option linter.unusedVariables false
set_option maxRecDepth 100000
set_option maxHeartbeats 8000000
section
open Crm Go.RowKit
theorem made2 (u v : Value) : ∀ n, (madeCells #[u, v] (n * 2)).toList = (List.replicate n ()).flatMap fun _ => [u, v]
  | 0 => by simp [madeCells]
  | n + 1 => by
    have h : ∀ m, (madeCells #[u, v] m).toList = (List.range m).map fun i => (#[u, v] : Array Value)[i % 2]! := fun m => by simp [madeCells]
    have ih := made2 u v n
    have e : (n + 1) * 2 = n * 2 + 1 + 1 := by omega
    rw [h] at ih
    rw [h, e, List.range_succ, List.range_succ, List.map_append, List.map_append, ih, List.replicate_succ', List.flatMap_append]
    have e0 : n * 2 % 2 = 0 := by omega
    have e1 : (n * 2 + 1) % 2 = 1 := by omega
    simp [e0, e1]
theorem made2_shc (n : Nat) : (madeCells (Value.agg #[.int .i64 0, .int .u64 0]).cells (n * 2)).toList = shc (List.replicate n (0, 0)) := by
  have e : (Value.agg #[.int .i64 0, .int .u64 0]).cells = #[.int .i64 0, .int .u64 0] := rfl
  rw [e, made2]
  induction n with
  | zero => rfl
  | succ n ih => rw [List.replicate_succ, List.replicate_succ, List.flatMap_cons, ih]; rfl
theorem shc_set2 : ∀ (l : List (Int × Int)) (q : Nat) (x z : Int), ((shc l).set (q * 2) (.int .i64 x)).set (q * 2 + 1) (.int .u64 z) = shc (l.set q (x, z))
  | [], q, x, z => by simp [shc]
  | p :: l, 0, x, z => rfl
  | p :: l, q + 1, x, z => by
    have := shc_set2 l q x z
    have e1 : (q + 1) * 2 = q * 2 + 1 + 1 := by omega
    rw [e1]
    show _ :: _ :: ((shc l).set (q * 2) (.int .i64 x)).set (q * 2 + 1) (.int .u64 z) = _
    rw [this]
    rfl
/-- A list of shares that is filled from its beginning on. -/
def fils (f : Nat → Int × Int) (n k : Nat) : List (Int × Int) := (List.range n).map fun i => if i < k then f i else (0, 0)
theorem fils_len (f : Nat → Int × Int) (n k : Nat) : (fils f n k).length = n := by simp [fils]
theorem fils_zero (f : Nat → Int × Int) (n : Nat) : List.replicate n (0, 0) = fils f n 0 := by
  apply List.ext_getElem?
  intro i
  by_cases hi : i < n
  · simp [fils, hi]
  · simp [fils, hi]
theorem fils_set {f : Nat → Int × Int} {n k : Nat} (v : Int × Int) (hv : v = f k) : (fils f n k).set k v = fils f n (k + 1) := by
  apply List.ext_getElem?
  intro i
  rw [List.getElem?_set]
  by_cases hi : i < n
  · by_cases e : k = i
    · subst e; simp [fils, hi, hv]
    · have : (i < k + 1) = (i < k) := by apply propext; omega
      simp [fils, hi, e, this]
  · by_cases e : k = i
    · subst e; simp [fils, hi]
    · simp [fils, hi, e]
theorem fils_full (f : Nat → Int × Int) (n : Nat) : fils f n n = (List.range n).map f := by
  unfold fils
  refine List.map_congr_left fun i hi => ?_
  rw [if_pos (List.mem_range.1 hi)]

theorem cStarts (a : Option Addr) (n c : Nat) (l : List (Int × List Int)) (w : World) (h : RdW w a n c l) (hn : n ≤ 9) (hw : ∀ i, i < n → 1 ≤ (tc l i).length) :
    Calls Try.prog 54 #[.slice a n c] w fun e w' => ∃ b d, e = .returned (.slice b n d) ∧ RdS w' b n d (colS l 0 n) ∧ Below w.heap.size w w' := by
  obtain ⟨i0, hi, hz0, hz1, hz2⟩ := info_parts infoSh
  have HW : Hid (∀ i, i < n → 1 ≤ (tc l i).length) := hw
  have hcap := h.cap
  clear hw
  go_enter Try.func54, Try.ntmps54
  go_wp2_with (at_make; refine wpList_make_full _ rfl _ _ 22 rfl w.heap.size 73 i0 (.agg #[.int .i64 0, .int .u64 0]) 2 Try.underlying22 hi hz0 hz1 .i64 .i64 _ _ n rfl rfl (by omega) (by omega) (by rw [hz2]; omega) (by unfold maxLen; omega) (Nat.le_refl _) ?_; intro w1 hown hgrow; rw [made2_shc, fils_zero (fun r => (ta l r, (tc l r).getD 0 0))] at hown; have hb1 : Below w.heap.size w w1 := (Below.refl _ _).grown hgrow (Nat.le_refl _) (by simp); clear hgrow)
  obtain ⟨F, HF⟩ : ∃ F : Nat → Int × Int, Hid ((fun r => (ta l r, (tc l r).getD 0 0)) = F) := ⟨_, rfl⟩
  rw [HF.out] at hown
  go_loopw [11] (fun i wr => ∃ k : Nat, k ≤ n ∧ i = .int .i64 k ∧ wr.ownsRow w.heap.size 73 2 (.slice (some ⟨w.heap.size, 0, none⟩) n n) n (shc (fils F n k)) ∧ Below w.heap.size w wr) (fun i _ => n - (intOf i).toNat)
  case atStart => exact ⟨0, Nat.zero_le _, rfl, hown, hb1⟩
  case round =>
    clear hown hb1
    obtain ⟨k, hk, rfl, hown, hbel⟩ := hrel
    have hs1 := hbel.size
    by_cases hlt : k < n
    · obtain ⟨b, o, x, ai, ni, ci, row, rfl, hbb, HX, HRow, hx0, hx1, hcx, hcr, hrow⟩ := (h.below hbel).one hlt
      have hni : 1 ≤ ni := by have := HW.out k hlt; rw [HRow.out, hrow.len] at this; exact this
      have hbA0 : Below wr.heap.size wr (wr.alloc (.cells #[.int .i64 x, .slice ai ni ci] 83)) := (Below.refl _ _).alloc (Nat.le_refl _) _
      have hbA := hbel.trans (hbA0.mono hs1)
      have hownA := own_below2 hown hbA0
      have hcA0 := cell_alloc0 wr (.int .i64 x) (.slice ai ni ci) 83
      have hcA1 := cell_alloc1 wr (.int .i64 x) (.slice ai ni ci) 83
      obtain ⟨b2, o2, y, rfl, hbb2, HY, hy0, hy1, hcy⟩ := (hrow.below hbA0).one (show 0 < ni by omega)
      have hFk : (x, y) = F k := by rw [← HF.out]; show (x, y) = (ta l k, (tc l k).getD 0 0); rw [HX.out, HRow.out, HY.out]
      obtain ⟨d0, d1⟩ := sh_cell hownA (fils_len F n k) hlt
      have ef0 := own_frozen2 hownA (k * 2)
      have ef1 := own_frozen2 hownA (k * 2 + 1)
      have hown8 := own_set2 (own_set2 hownA (k * 2) (.int .i64 x)) (k * 2 + 1) (.int .u64 y)
      rw [shc_set2, fils_set (x, y) hFk] at hown8
      have Hown8 : Hid (World.ownsRow _ _ _ _ _ _ _) := hown8
      have Hb8 : Hid (Below _ _ _) := (hbA.setCell (p := ⟨w.heap.size, k * 2, none⟩) (Nat.le_refl _) (.int .i64 x)).setCell (p := ⟨w.heap.size, k * 2 + 1, none⟩) (Nat.le_refl _) (.int .u64 y)
      rw [Nat.add_zero] at hcy
      have hn0 : 0 < ni := hni
      have hbb2' : b2 < (wr.alloc (.cells #[.int .i64 x, .slice (some ⟨b2, o2, none⟩) ni ci] 83)).heap.size := hbb2
      clear hown hownA hown8 hFk hbA0 hbb2
      go_wp2
      generalize wr.alloc (.cells #[.int .i64 x, .slice (some ⟨b2, o2, none⟩) ni ci] 83) = W at *
      clear hcx hcr hrow
      go_region
      all_goals
        have hown9 : World.ownsRow _ _ _ _ _ _ _ := Hown8.out
        have hb9 := Hb8.out.drew
        clear hbA hcA0 hcA1 hcy d0 d1 ef0 ef1 Hown8 Hb8
        go_wp2
        go_roundw
        case rel => exact ⟨k + 1, by omega, by go_num, hown9, hb9⟩
        case measure => simp [intOf]; omega
    · have hkn : k = n := by omega
      subst hkn
      obtain ⟨b, d, e, hr⟩ := RdS.own hown (fils_len F k k) (fun r hr => by
        rw [fils_full, ← HF.out]
        have h1 := h.bd r hr
        have h2 := getD_bd (h.nbd hr) 0
        simp only [List.getD_eq_getElem?_getD, List.getElem?_map, List.getElem?_range hr, Option.map_some, Option.getD_some]
        exact ⟨h1, h2⟩)
      rw [fils_full, ← HF.out] at hr
      simp only [Value.slice.injEq, true_and] at e
      obtain ⟨rfl, rfl⟩ := e
      have hr2 : RdS wr (some ⟨w.heap.size, 0, none⟩) k k (colS l 0 k) := hr
      clear hr hown
      go_wp2
      go_ret
      exact ⟨_, _, rfl, hr2, hbel⟩
theorem pvc_set2 : ∀ (l : List (Int × Value)) (q : Nat) (x : Int) (u : Value), ((pvc l).set (q * 2) (.int .i64 x)).set (q * 2 + 1) u = pvc (l.set q (x, u))
  | [], q, x, u => by simp [pvc]
  | p :: l, 0, x, u => rfl
  | p :: l, q + 1, x, u => by
    have := pvc_set2 l q x u
    have e1 : (q + 1) * 2 = q * 2 + 1 + 1 := by omega
    rw [e1]
    show _ :: _ :: ((pvc l).set (q * 2) (.int .i64 x)).set (q * 2 + 1) u = _
    rw [this]
    rfl
theorem getD_set_ne {α : Type} (l : List α) {i q : Nat} (x d : α) (h : i ≠ q) : (l.set q x).getD i d = l.getD i d := by
  simp [show ¬ q = i from fun e => h e.symm]
theorem getD_set_eq {α : Type} (l : List α) {q : Nat} (x d : α) (h : q < l.length) : (l.set q x).getD q d = x := by simp [h]
/-- One row is laid at its place. -/
theorem LsW.put {w : World} {B n c g q : Nat} {u : Value} {L : List (Int × Value)} {l : List (Int × List Int)} {x : Int} {row : List Int} (h : LsW w B (.slice (some ⟨g, 0, none⟩) n c) L l) (hl : l.length = n) (hq : q < n) (hr : w.ownsRow B 28 1 u row.length (row.map (Value.int .u64)))
    (hnew : ∀ i, i < l.length → (L.getD i (0, .slice none 0 0)).2.ownBlock = none ∨ (L.getD i (0, .slice none 0 0)).2.ownBlock ≠ u.ownBlock) :
    LsW ((w.setCell ⟨g, q * 2, none⟩ (.int .i64 x)).setCell ⟨g, q * 2 + 1, none⟩ u) B (.slice (some ⟨g, 0, none⟩) n c) (L.set q (x, u)) (l.set q (x, row)) := by
  have hL := h.len
  have hE : (83 : TypeId) ≠ 28 := by decide
  have hg : w.grownBy ((w.setCell ⟨g, q * 2, none⟩ (.int .i64 x)).setCell ⟨g, q * 2 + 1, none⟩ u) (some g) := grown_trans (grown_set _ _ _ _) (grown_set _ _ _ _)
  have ho := h.own
  rw [hl] at ho
  refine ⟨?_, by simp [hL], fun i hi => ?_, fun i hi => ?_, fun i j hij hj => ?_⟩
  · rw [List.length_set, hl, ← pvc_set2]
    exact own_set2 (own_set2 ho _ _) _ _
  · rw [List.length_set] at hi
    unfold ta
    by_cases e : i = q
    · subst e; rw [getD_set_eq _ _ _ (by omega), getD_set_eq _ _ _ (by omega)]
    · rw [getD_set_ne _ _ _ e, getD_set_ne _ _ _ e]; exact h.at_ i hi
  · rw [List.length_set] at hi
    unfold tc
    by_cases e : i = q
    · subst e
      rw [getD_set_eq _ _ _ (by omega), getD_set_eq _ _ _ (by omega)]
      exact hr.kept hg (own_apart ho hr hE)
    · rw [getD_set_ne _ _ _ e, getD_set_ne _ _ _ e]
      exact (h.row i hi).kept hg (own_apart ho (h.row i hi) hE)
  · rw [List.length_set] at hj
    by_cases e : i = q
    · subst e
      rw [getD_set_eq _ _ _ (by omega), getD_set_ne _ _ _ (show j ≠ i by omega)]
      rcases hnew j hj with e1 | e1
      · by_cases hu : u.ownBlock = none
        · exact .inl hu
        · exact .inr (by rw [e1]; exact hu)
      · exact .inr (fun e2 => e1 e2.symm)
    · by_cases e' : j = q
      · subst e'
        rw [getD_set_eq _ _ _ (by omega), getD_set_ne _ _ _ e]
        exact hnew i (by omega)
      · rw [getD_set_ne _ _ _ e, getD_set_ne _ _ _ e']
        exact h.inj i j hij hj
/-- Its cells. -/
theorem LsW.cells {w : World} {B n c g q : Nat} {L : List (Int × Value)} {l : List (Int × List Int)} (h : LsW w B (.slice (some ⟨g, 0, none⟩) n c) L l) (hl : l.length = n) (hq : q < n) :
    (∃ a, w.cell? ⟨g, q * 2, none⟩ = some a) ∧ (∃ a, w.cell? ⟨g, q * 2 + 1, none⟩ = some a) ∧ w.frozen? ⟨g, q * 2, none⟩ = false ∧ w.frozen? ⟨g, q * 2 + 1, none⟩ = false := by
  have hL := h.len
  have ho := h.own
  rw [hl] at ho
  have hp := pvc_get L q (by omega)
  have a1 := ho.cells (g := g) rfl _ _ hp.1
  have a2 := ho.cells (g := g) rfl _ _ hp.2
  rw [Addr.add_lit] at a1 a2
  exact ⟨⟨_, by simpa using a1⟩, ⟨_, by simpa using a2⟩, own_frozen2 ho _, own_frozen2 ho _⟩
end
end Go.Proofs.Ytljlioglpaogdab

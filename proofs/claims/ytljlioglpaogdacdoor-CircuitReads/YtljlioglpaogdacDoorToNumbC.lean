/- croftref.Outs: gates that are copied and written; wires as a map: plain facts and lists of gates. · croftref.Pieces. · Slices of texts that are read; croftref.Numbers. -/
import Derived.Test.YtljlioglpaogdacDoorCircC
import Derived.Test.YtljlioglpaogdacDoorToTrimC
import Derived.Maps.OwnOps
import Derived.Maps.OwnSet
import Derived.Deep.RegionHeld3
import Derived.Deep.RegionLaw
import Derived.Laws.DeepStrings4
namespace Go.Proofs.YtljlioglpaogdacDoor
set_option linter.unusedVariables false
set_option maxRecDepth 100000
set_option maxHeartbeats 8000000
section
open Crm Go.Maps Go.RowKit
/-- The cells of gates. -/
def gcs (G : List Gt) : List Value := G.flatMap fun g => [.int .i64 g.k, .int .i64 g.a, .int .i64 g.b, .int .u64 g.n]
theorem gcs_get : ∀ (G : List Gt) (i : Nat), i < G.length → (gcs G)[i * 4]? = some (.int .i64 (gt G i).k) ∧ (gcs G)[i * 4 + 1]? = some (.int .i64 (gt G i).a) ∧ (gcs G)[i * 4 + 2]? = some (.int .i64 (gt G i).b) ∧ (gcs G)[i * 4 + 3]? = some (.int .u64 (gt G i).n)
  | [], i, h => by simp at h
  | p :: l, 0, _ => ⟨rfl, rfl, rfl, rfl⟩
  | p :: l, i + 1, h => by
    have := gcs_get l i (by simpa using h)
    have e1 : (i + 1) * 4 = i * 4 + 1 + 1 + 1 + 1 := by omega
    rw [e1]
    exact this
theorem own_setZ {w : World} {B n c g z : Nat} {E : TypeId} {xs : List Value} (h : w.ownsRow B E z (.slice (some ⟨g, 0, none⟩) n c) n xs) (i : Nat) (u : Value) : (w.setCell ⟨g, i, none⟩ u).ownsRow B E z (.slice (some ⟨g, 0, none⟩) n c) n (xs.set i u) := by
  refine ⟨by rw [List.length_set]; exact h.1, .inr ?_⟩
  rcases h.2 with ⟨e, _⟩ | ⟨g', cap, cur, e, hb, hg, h1, h2, hs, ht⟩
  · simp at e
  · simp only [Value.slice.injEq, Option.some.injEq, Addr.mk.injEq, and_true, true_and] at e
    obtain ⟨rfl, rfl⟩ := e
    refine ⟨g, c, _, rfl, hb, heap_setCell_same w g i _ _ _ hg, h1, h2, by simpa using hs, ?_⟩
    rw [← ht]
    simp [List.take_set]
theorem own_frozenZ {w : World} {B n c g z : Nat} {E : TypeId} {xs : List Value} (h : w.ownsRow B E z (.slice (some ⟨g, 0, none⟩) n c) n xs) (i : Nat) : w.frozen? ⟨g, i, none⟩ = false := by
  rcases h.2 with ⟨e, _⟩ | ⟨g', cap, cur, e, hb, hg, _⟩
  · simp at e
  · simp only [Value.slice.injEq, Option.some.injEq, Addr.mk.injEq, and_true, true_and] at e
    obtain ⟨rfl, rfl⟩ := e
    exact frozen_of_row w g i _ _ hg
/-- Gates that a call has made its own. -/
theorem RdG.own {w : World} {base n c g : Nat} {E : TypeId} {G : List Gt} (h : w.ownsRow base E 4 (.slice (some ⟨g, 0, none⟩) n c) n (gcs G)) (hl : G.length = n)
    (hb : ∀ i, i < n → (-9223372036854775808 ≤ (gt G i).k ∧ (gt G i).k ≤ 9223372036854775807) ∧ (-9223372036854775808 ≤ (gt G i).a ∧ (gt G i).a ≤ 9223372036854775807) ∧ (-9223372036854775808 ≤ (gt G i).b ∧ (gt G i).b ≤ 9223372036854775807) ∧ 0 ≤ (gt G i).n ∧ (gt G i).n ≤ 18446744073709551615) : RdG w (some ⟨g, 0, none⟩) n c G := by
  rcases h.2 with ⟨e, _⟩ | ⟨g', cap, cur, e, hbb, hg, h1, h2, hs, ht⟩
  · simp at e
  · simp only [Value.slice.injEq, Option.some.injEq, Addr.mk.injEq, and_true, true_and] at e
    obtain ⟨rfl, rfl⟩ := e
    refine ⟨hl, h1, h2, by simp, hb, fun x hx i hi => ?_⟩
    obtain rfl := Option.some.inj hx
    obtain ⟨e1, e2, e3, e4⟩ := gcs_get G i (by omega)
    exact ⟨h.cells (g := g) rfl _ _ e1, h.cells (g := g) rfl _ _ e2, h.cells (g := g) rfl _ _ e3, h.cells (g := g) rfl _ _ e4⟩
theorem own_atZ {w : World} {base n z : Nat} {E : TypeId} {v : Value} {xs : List Value} (h : w.ownsRow base E z v n xs) (hn : 0 < n) : ∃ g c, v = .slice (some ⟨g, 0, none⟩) n c ∧ base ≤ g ∧ g < w.heap.size ∧ n ≤ c ∧ c ≤ maxLen := by
  rcases h.2 with ⟨_, rfl⟩ | ⟨g, cap, cur, rfl, hb, hg, h1, h2, _⟩
  · omega
  · exact ⟨g, cap, rfl, hb, (Array.getElem?_eq_some_iff.1 hg).1, h1, h2⟩
theorem CBox.grown {w w' : World} {g : Nat} {r : Option Nat} {ag : Option Addr} {n cg : Nat} {ao : Option Addr} {m co : Nat} (h : CBox w g ag n cg ao m co) (hg : w.grownBy w' r) (hr : some g ≠ r) : CBox w' g ag n cg ao m co := by
  unfold CBox; rw [hg.block g h.lt hr]; exact h
end
section
open Crm Go.RowKit
def mt : ByteArray := ⟨#[]⟩
def strs (L : List ByteArray) : List Value := L.map Value.string
theorem strs_len (L : List ByteArray) : (strs L).length = L.length := by simp [strs]
/-- Pieces of the first k bytes. -/
def pcs (s : ByteArray) (b : Int) : Nat → List ByteArray
  | 0 => [mt]
  | k + 1 => if bt s k = b then pcs s b k ++ [mt] else (pcs s b k).set ((pcs s b k).length - 1) ((pcs s b k).getD ((pcs s b k).length - 1) mt ++ s.extract k (k + 1))
theorem pcs_yes {s : ByteArray} {b : Int} {k : Nat} (h : bt s k = b) : pcs s b k ++ [mt] = pcs s b (k + 1) := by rw [pcs, if_pos h]
theorem pcs_no {s : ByteArray} {b : Int} {k : Nat} (h : bt s k ≠ b) : (pcs s b k).set ((pcs s b k).length - 1) ((pcs s b k).getD ((pcs s b k).length - 1) mt ++ s.extract k (k + 1)) = pcs s b (k + 1) := by rw [pcs, if_neg h]
theorem pcs_len (s : ByteArray) (b : Int) : ∀ k, 1 ≤ (pcs s b k).length ∧ (pcs s b k).length ≤ k + 1
  | 0 => by simp [pcs]
  | k + 1 => by
    have := pcs_len s b k
    rw [pcs]
    split
    · simp; omega
    · simp; omega
theorem pcs_size (s : ByteArray) (b : Int) : ∀ k, ∀ x ∈ pcs s b k, x.size ≤ k
  | 0, x, hx => by simp [pcs] at hx; subst hx; exact Nat.le_refl 0
  | k + 1, x, hx => by
    have ih := pcs_size s b k
    rw [pcs] at hx
    split at hx
    · rcases List.mem_append.1 hx with h | h
      · have := ih x h; omega
      · simp at h; subst h; exact Nat.zero_le _
    · rcases List.mem_or_eq_of_mem_set hx with h | rfl
      · have := ih x h; omega
      · have hl := pcs_len s b k
        have h1 : (pcs s b k).getD ((pcs s b k).length - 1) mt ∈ pcs s b k := by
          rw [List.getD_eq_getElem?_getD, List.getElem?_eq_getElem (by omega)]
          exact List.getElem_mem _
        have h2 := ih _ h1
        rw [ByteArray.size_append, ByteArray.size_extract]
        omega
theorem infoS : (Tryd.prog.info? 9).map (fun i => (i.zero, i.size, i.bytes)) = some (some (.string ⟨#[]⟩), 1, 16) := by kernel_rfl
theorem own_new1 (w : World) (u : Value) (E : TypeId) : (w.alloc (.cells #[u] E)).ownsRow w.heap.size E 1 (.slice (some ⟨w.heap.size, 0, none⟩) 1 1) 1 [u] :=
  ⟨rfl, .inr ⟨w.heap.size, 1, #[u], rfl, Nat.le_refl _, heap_alloc_new w _, Nat.le_refl _, by decide, rfl, rfl⟩⟩
theorem own_cellZ {w : World} {B n c g z : Nat} {E : TypeId} {xs : List Value} (h : w.ownsRow B E z (.slice (some ⟨g, 0, none⟩) n c) n xs) {i : Nat} {u : Value} (hi : xs[i]? = some u) : w.cell? ⟨g, i, none⟩ = some u := by
  have := h.cells (g := g) rfl _ _ hi
  rwa [Addr.add_lit, Nat.zero_add] at this

theorem rPieces (s : ByteArray) (b : Int) (w : World) (hs : s.size ≤ 100000) (hb0 : 0 ≤ b) (hb1 : b ≤ 255) :
    Calls Tryd.prog 19 #[.string s, .int .u8 b] w fun e w' => ∃ v, e = .returned v ∧ w'.ownsRow w.heap.size 9 1 v (pcs s b s.size).length (strs (pcs s b s.size)) ∧ Below w.heap.size w w' := by
  have ho0 : (w.alloc (.cells #[.string ⟨#[]⟩] 9)).ownsRow w.heap.size 9 1 (.slice (some ⟨w.heap.size, 0, none⟩) 1 1) (pcs s b 0).length (strs (pcs s b 0)) := own_new1 w _ _
  have hb0' := (Below.refl w.heap.size w).alloc (Nat.le_refl _) (.cells #[.string ⟨#[]⟩] 9)
  go_enter Tryd.func19, Tryd.ntmps19
  go_wp2
  go_loopw [5, 6] (fun v i wr => ∃ k : Nat, k ≤ s.size ∧ i = .int .i64 k ∧ wr.ownsRow w.heap.size 9 1 v (pcs s b k).length (strs (pcs s b k)) ∧ Below w.heap.size w wr) (fun _ i _ => s.size - (intOf i).toNat)
  case atStart => exact ⟨0, Nat.zero_le _, rfl, ho0, hb0'⟩
  case round =>
    clear ho0 hb0'
    obtain ⟨k, hk, rfl, hown, hbel⟩ := hrel
    have hs1 := hbel.size
    by_cases hlt : k < s.size
    · have hl := pcs_len s b k
      obtain ⟨g, c, rfl, hg, hgl, hlc, hcm⟩ := own_atZ hown hl.1
      obtain ⟨x, HX⟩ : ∃ x, Hid (bt s k = x) := ⟨_, rfl⟩
      have hx := bt_bd s k
      have hix := fun w => bt_run (P := Tryd.prog) Tryd.underlying9 s hlt w
      rw [HX.out] at hx hix
      unfold maxLen at hcm
      by_cases hxb : x = b
      · have HE : Hid (pcs s b k ++ [mt] = pcs s b (k + 1)) := pcs_yes (by rw [HX.out]; exact hxb)
        obtain ⟨m, HM⟩ : ∃ m, Hid ((pcs s b k).length = m) := ⟨_, rfl⟩
        have HM2 : Hid ((pcs s b (k + 1)).length = m + 1) := by unfold Hid; rw [← HE.out, List.length_append, HM.out]; rfl
        have HS : Hid (strs (pcs s b k) ++ [.string ⟨#[]⟩] = strs (pcs s b (k + 1))) := by unfold Hid; rw [← HE.out]; simp [strs, mt]
        rw [HM.out] at hown hl ⊢
        subst hxb
        go_wp2_with (at_builtin; refine wpList_appV Tryd.underlying51 infoS rfl (by omega) _ rfl _ _ rfl w.heap.size _ _ _ rfl hown (.string ⟨#[]⟩) rfl rfl (by omega) hs1 ?_; intro v2 w2 hown2 hgr2 _; rw [HS.out] at hown2; have hb2 := hbel.grown hgr2 hs1 (fun p hp => (hown.lt p hp).1); clear hgr2 hown hbel)
        go_roundw
        case rel => exact ⟨k + 1, by omega, by go_num, by rw [HM2.out]; exact hown2, hb2⟩
        case measure => simp [intOf]; omega
      · have HE := pcs_no (s := s) (b := b) (k := k) (by rw [HX.out]; exact hxb)
        obtain ⟨m, HM⟩ : ∃ m, Hid ((pcs s b k).length = m + 1) := ⟨(pcs s b k).length - 1, by unfold Hid; omega⟩
        obtain ⟨y, HY⟩ : ∃ y, Hid ((pcs s b k).getD m mt = y) := ⟨_, rfl⟩
        obtain ⟨z, HZ⟩ : ∃ z, Hid (s.extract k (k + 1) = z) := ⟨_, rfl⟩
        rw [HM.out, Nat.add_sub_cancel, HY.out, HZ.out] at HE
        have HM2 : Hid ((pcs s b (k + 1)).length = m + 1) := by unfold Hid; rw [← HE, List.length_set, HM.out]
        have HS : Hid ((strs (pcs s b k)).set m (.string (y ++ z)) = strs (pcs s b (k + 1))) := by unfold Hid; rw [← HE, strs, strs, List.map_set]
        have hgy : (strs (pcs s b k))[m]? = some (.string y) := by
          rw [strs, List.getElem?_map, List.getElem?_eq_getElem (by have := HM.out; omega), Option.map_some, ← HY.out, List.getD_eq_getElem?_getD, List.getElem?_eq_getElem (by have := HM.out; omega)]
          rfl
        have hym : y ∈ pcs s b k := by
          rw [← HY.out, List.getD_eq_getElem?_getD, List.getElem?_eq_getElem (by have := HM.out; omega)]
          exact List.getElem_mem _
        have hys := pcs_size s b k y hym
        have hzs : z.size ≤ 1 := by rw [← HZ.out, ByteArray.size_extract]; omega
        rw [HM.out] at hown hl hlc ⊢
        have hcell := own_cellZ hown hgy
        have hfz := own_frozenZ hown m
        have hos := own_setZ hown m (.string (y ++ z))
        rw [HS.out] at hos
        have HO : Hid (World.ownsRow _ _ _ _ _ _ _) := hos
        have HB : Hid (Below w.heap.size w (wr.setCell ⟨g, m, none⟩ (.string (y ++ z)))) := hbel.setCell (p := ⟨g, m, none⟩) hg _
        have hsl : ∀ w, (Instr.slice 9 (.string s) (some (.int .i64 (k : Int))) (some (.int .i64 ((k : Int) + 1))) none).run Tryd.prog w = .ok (.string z) w := fun w => by
          rw [run_slice_string_if w 9 s .i64 .i64 _ _ Tryd.underlying9, if_pos ⟨by omega, by omega⟩, if_pos ⟨by omega, by omega⟩, ← HZ.out]
          rfl
        have hm0 : (0 : Int) ≤ (m : Int) := by omega
        have hxb2 : (x == b) = false := by rw [beq_eq_false_iff_ne]; exact hxb
        clear hos hown hbel HE hgy hym hxb
        go_wp2
        go_region
        all_goals
          go_wp2
          exact ⟨⟨k + 1, by omega, by go_num, by rw [HM2.out]; exact HO.out, HB.out.drew⟩, by simp [intOf]; omega⟩
    · have hks : k = s.size := by omega
      subst hks
      go_wp2
      go_ret
      exact ⟨_, rfl, hown, hbel⟩
def tx (L : List ByteArray) (i : Nat) : ByteArray := L.getD i mt
/-- The slice reads as the texts L, none too great. -/
structure RdT (w : World) (a : Option Addr) (n c : Nat) (L : List ByteArray) : Prop where
  len : L.length = n
  cap : n ≤ c
  max : c ≤ maxLen
  nil : a = none → c = 0
  bd : ∀ i, i < n → (tx L i).size ≤ 9223372036854775807
  cell : ∀ x, a = some x → ∀ i, i < n → w.cell? (x.add i) = some (.string (tx L i))
theorem RdT.one {w : World} {a : Option Addr} {n c : Nat} {L : List ByteArray} (h : RdT w a n c L) {k : Nat} (hk : k < n) :
    ∃ b o x, a = some ⟨b, o, none⟩ ∧ b < w.heap.size ∧ Hid (tx L k = x) ∧ x.size ≤ 9223372036854775807 ∧ w.cell? ⟨b, o + k, none⟩ = some (.string x) := by
  cases ha : a with
  | none => have := h.nil ha; have := h.cap; omega
  | some x =>
    have h0 := h.cell x ha k hk
    have hs : x.spot = none := by
      have := spot_none (h.cell x ha 0 (by omega))
      unfold Addr.add at this
      split at this <;> simp_all
    obtain ⟨b, o, s⟩ := x
    simp only at hs
    subst hs
    rw [Addr.add_lit] at h0
    exact ⟨b, o, _, rfl, World.block_lt_of_cell? w _ h0, rfl, h.bd k hk, h0⟩
theorem RdT.below {w w' : World} {a : Option Addr} {n c : Nat} {L : List ByteArray} (h : RdT w a n c L) (hb : Below w.heap.size w w') : RdT w' a n c L := by
  refine ⟨h.len, h.cap, h.max, h.nil, h.bd, fun x hx i hi => ?_⟩
  have := h.cell x hx i hi
  rw [hb.cell (World.block_lt_of_cell? w _ this)]
  exact this
theorem strs_at {L : List ByteArray} {i : Nat} (h : i < L.length) : (strs L)[i]? = some (.string (tx L i)) := by
  simp [strs, tx, h]
/-- Texts that a call has made its own. -/
theorem RdT.own {w : World} {base n : Nat} {E : TypeId} {v : Value} {L : List ByteArray} (h : w.ownsRow base E 1 v n (strs L)) (hn : 0 < n) (hb : ∀ x ∈ L, x.size ≤ 9223372036854775807) : ∃ g c, v = .slice (some ⟨g, 0, none⟩) n c ∧ base ≤ g ∧ RdT w (some ⟨g, 0, none⟩) n c L := by
  obtain ⟨g, c, rfl, hg, _, h1, h2⟩ := own_atZ h hn
  have hl : L.length = n := by have := h.1; rw [strs_len] at this; omega
  refine ⟨g, c, rfl, hg, hl, h1, h2, by simp, fun i hi => ?_, fun x hx i hi => ?_⟩
  · refine hb _ ?_
    unfold tx
    rw [List.getD_eq_getElem?_getD, List.getElem?_eq_getElem (by omega)]
    exact List.getElem_mem _
  · obtain rfl := Option.some.inj hx
    rw [Addr.add_lit, Nat.zero_add]
    exact own_cellZ h (strs_at (by omega))
/-- All but the first. -/
theorem RdT.tail {w : World} {g o n c : Nat} {L : List ByteArray} (h : RdT w (some ⟨g, o, none⟩) (n + 1) (c + 1) L) : RdT w (some ⟨g, o + 1, none⟩) n c (L.drop 1) := by
  have ht : ∀ i, tx (L.drop 1) i = tx L (i + 1) := fun i => by simp [tx]
  refine ⟨by rw [List.length_drop, h.len]; rfl, by have := h.cap; omega, by have := h.max; omega, by simp, fun i hi => ?_, fun x hx i hi => ?_⟩
  · rw [ht]; exact h.bd _ (by omega)
  · obtain rfl := Option.some.inj hx
    have := h.cell _ rfl (i + 1) (by omega)
    rw [Addr.add_lit] at this ⊢
    rw [ht, ← this]
    congr 2
    omega
/-- The numbers of words. -/
def nbl (L : List ByteArray) (k : Nat) : List Int := (List.range k).map fun i => dgn (tx L i) (tx L i).size
theorem nbl_snoc {L : List ByteArray} {k : Nat} {x : Int} (h : dgn (tx L k) (tx L k).size = x) : nbl L k ++ [x] = nbl L (k + 1) := by rw [nbl, nbl, List.range_succ, List.map_append, ← h]; rfl
theorem nbl_len (L : List ByteArray) (k : Nat) : (nbl L k).length = k := by simp [nbl]
def okn (L : List ByteArray) (k : Nat) : Prop := ∀ i, i < k → okd (tx L i)
theorem okn_succ {L : List ByteArray} {k : Nat} (h : okn L k) (hk : okd (tx L k)) : okn L (k + 1) := fun i hi => by
  by_cases e : i = k
  · rw [e]; exact hk
  · exact h i (by omega)
theorem okd_bd {s : ByteArray} (h : okd s) : 0 ≤ dgn s s.size ∧ dgn s s.size ≤ 9999999999 := by
  have := dgn_bd h.2.1
  have := ten_le h.1.2
  omega
/-- What Numbers answers. -/
def Nmb (L : List ByteArray) (n : Nat) (w : World) (e : Ending) (w' : World) : Prop :=
  ((¬ okn L n ∧ e = .returned (.tuple #[.slice none 0 0, .bool false])) ∨ (okn L n ∧ ∃ v, e = .returned (.tuple #[v, .bool true]) ∧ w'.ownsRow w.heap.size 3 1 v n (zns (nbl L n)))) ∧ Below w.heap.size w w'

theorem rNumbers (a : Option Addr) (n c : Nat) (L : List ByteArray) (w : World) (h : RdT w a n c L) (hn : n ≤ 100000) :
    Calls Tryd.prog 20 #[.slice a n c] w fun e w' => Nmb L n w e w' := by
  have hcap := h.cap
  go_enter Tryd.func20, Tryd.ntmps20
  go_wp2
  go_loopw [4, 5] (fun v i wr => ∃ k : Nat, k ≤ n ∧ i = .int .i64 k ∧ Hid (okn L k) ∧ wr.ownsRow w.heap.size 3 1 v k (zns (nbl L k)) ∧ Below w.heap.size w wr) (fun _ i _ => n - (intOf i).toNat)
  case atStart => exact ⟨0, Nat.zero_le _, rfl, fun i hi => by omega, World.ownsRow_nil _ _ _ _, Below.refl _ _⟩
  case round =>
    obtain ⟨k, hk, rfl, HO, hown, hbel⟩ := hrel
    have hs1 := hbel.size
    by_cases hlt : k < n
    · obtain ⟨b, o, x, rfl, hbb, HX, hxs, hc⟩ := (h.below hbel).one hlt
      go_wp2_with fail
      refine (rDigits _ _ hxs).mono ?_
      rintro e w' ⟨r, rfl, hD, hw⟩
      have hw := hw.symm
      subst hw
      have hrb := hD.bd
      rcases hD with ⟨hok, hr⟩ | ⟨hno, hr⟩
      · have h0 := okd_bd hok
        rw [← hr] at h0
        have HN : Hid (zns (nbl L k) ++ [.int .i64 r] = zns (nbl L (k + 1))) := by unfold Hid; rw [zns_snoc, nbl_snoc (by rw [HX.out]; exact hr.symm)]
        have HO2 : Hid (okn L (k + 1)) := okn_succ HO.out (by rw [HX.out]; exact hok)
        have HD : Hid (Dgt x r) := .inl ⟨hok, hr⟩
        clear hok hr hrb
        go_wp2_with (first | (go_at_call 44; refine (rDigits _ _ hxs).mono ?_; rintro e w' ⟨r2, rfl, hD2, hw⟩; have hw := hw.symm; subst hw; have hr2 := HD.out.one hD2; subst hr2; clear hD2) | (at_builtin; refine wpList_appV Tryd.underlying23 infoZ rfl (by omega) _ rfl _ _ rfl w.heap.size _ _ _ rfl hown (.int .i64 r) rfl rfl (by omega) hs1 ?_; intro v2 w2 hown2 hgr2 _; rw [HN.out] at hown2; have hb2 := hbel.grown hgr2 hs1 (fun q hq => (hown.lt q hq).1); clear hgr2 hown hbel))
        exact ⟨⟨k + 1, by omega, by go_num, HO2, hown2, hb2⟩, by simp [intOf]; omega⟩
      · subst hr
        have HN : Hid (¬ okn L n) := fun e => hno (by rw [← HX.out]; exact e k hlt)
        clear hno
        go_wp2
        go_ret2
        exact ⟨.inl ⟨HN.out, rfl⟩, hbel⟩
    · have hkn : k = n := by omega
      subst hkn
      go_wp2
      go_ret2
      exact ⟨.inr ⟨HO.out, _, rfl, hown⟩, hbel⟩
end
end Go.Proofs.YtljlioglpaogdacDoor

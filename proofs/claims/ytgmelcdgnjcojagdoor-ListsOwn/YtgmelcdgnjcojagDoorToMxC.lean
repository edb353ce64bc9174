/- croftkeep.spoil of numbers: a list of the call's own is written, up to its capacity; nothing else turns. · solve.takeTimes. · Rows of rows of the call's own: every number known, each row in a block of its own. -/
import Derived.Test.YtgmelcdgnjcojagDoorToNewtonM
import Derived.Test.YtgmelcdgnjcojagDoorToPolyM
import Derived.Test.YtgmelcdgnjcojagDoorToEnR
import Derived.Test.YtgmelcdgnjcojagDoorToGatesR
import Derived.Deep.RegionWith
namespace Go.Proofs.YtgmelcdgnjcojagDoor
open Go.RowKit Crm

theorem infoSp : (Tryd.prog.info? 34).map (·.size) = some 1 := by kernel_rfl
set_option maxRecDepth 100000 in
set_option maxHeartbeats 1000000 in
theorem kSpoil (v : Value) (n base : Nat) (xs : List Value) (x : Int) (w : World) (h : w.ownsRow base 34 1 v n xs) :
    Calls Tryd.prog 16 #[v, .int .u64 x] w fun e w' => e = .returned (.tuple #[]) ∧ w.grownBy w' v.ownBlock := by
  rcases h.2 with ⟨rfl, rfl⟩ | ⟨g, cap, cur, rfl, hb, hg, hnc, hcm, hcs, _⟩
  · have hsl : ∀ W, (Instr.sliceAt 22 (.slice none 0 0) none (some (.int .i64 ((0 : Nat) : Int))) none).run Tryd.prog W = .ok (.slice none 0 0) W := fun W => run_subh Tryd.underlying22 infoSp none 0 0 0 (fun _ => rfl) (Nat.le_refl _) W
    go_enter Tryd.func16, Tryd.ntmps16
    go_wp2
    go_loopw [11] (fun i wr => i = .int .i64 0 ∧ wr = w) (fun _ _ => 0)
    case atStart => exact ⟨rfl, rfl⟩
    case round =>
      obtain ⟨rfl, hw⟩ := hrel
      have hw := hw.symm
      subst hw
      go_wp2
      exact bodyPost_end (v := .tuple #[]) (by simp [results, Tryd.results16, go_sem]) rfl ⟨rfl, World.grownBy.refl _ _⟩
  · have hsl : ∀ W, (Instr.sliceAt 22 (.slice (some ⟨g, 0, none⟩) n cap) none (some (.int .i64 (cap : Int))) none).run Tryd.prog W = .ok (.slice (some ⟨g, 0, none⟩) cap cap) W := fun W => run_subh Tryd.underlying22 infoSp (some ⟨g, 0, none⟩) n cap cap (fun e => by simp at e) (Nat.le_refl _) W
    unfold maxLen at hcm
    have hcs1 : cur.size = cap := by simpa using hcs
    clear h hcs
    go_enter Tryd.func16, Tryd.ntmps16
    go_wp2
    go_loopw [11] (fun i wr => ∃ (k : Nat) (cu : Array Value), k ≤ cap ∧ i = .int .i64 k ∧ wr.heap[g]? = some (.cells cu 34 (0, 0)) ∧ cu.size = cap ∧ w.grownBy wr (some g)) (fun i _ => cap - (intOf i).toNat)
    case atStart => exact ⟨0, cur, Nat.zero_le _, rfl, hg, hcs1, World.grownBy.refl _ _⟩
    case round =>
      obtain ⟨k, cu, hk, rfl, hgr, hcu, hgw⟩ := hrel
      by_cases hlt : k < cap
      · have hc : wr.cell? ⟨g, k, none⟩ = some cu[k] := by rw [cell_of_row wr g k _ _ (0, 0) hgr]; exact Array.getElem?_eq_getElem (by omega)
        have hfz := frozen_of_row wr g k _ _ hgr
        have hgl : g < wr.heap.size := (Array.getElem?_eq_some_iff.1 hgr).1
        have hset := heap_setCell_same wr g k _ _ (.int .u64 x) hgr
        obtain ⟨y, HY⟩ : ∃ y, cu[k] = y := ⟨_, rfl⟩
        rw [HY] at hc
        have HG : Hid (w.grownBy (wr.setCell ⟨g, k, none⟩ (.int .u64 x)) (some g)) := grown_trans hgw (grown_set _ _ _ _)
        have HS : Hid ((wr.setCell ⟨g, k, none⟩ (.int .u64 x)).heap[g]? = _) := hset
        clear hgr hset hgw HY
        go_wp2
        go_roundw
        case rel => exact ⟨k + 1, _, by omega, by go_num, HS.out, by simp [hcu], HG.out⟩
        case measure => simp [intOf]; omega
      · obtain rfl : k = cap := by omega
        go_wp2
        exact bodyPost_end (v := .tuple #[]) (by simp [results, Tryd.results16, go_sem]) rfl ⟨rfl, hgw⟩
end Go.Proofs.YtgmelcdgnjcojagDoor

namespace Go.Proofs.YtgmelcdgnjcojagDoor
open Go.RowKit Crm

/-- L, from which t times D has been taken at the first k places. -/
structure Tk (L D : List Int) (t : Int) (k : Nat) (A : List Int) : Prop where
  len : A.length = L.length
  bd : ∀ x ∈ A, 0 ≤ x ∧ x ≤ 2147483646
  at_ : ∀ j, j < L.length → A.getD j 0 = if j < k then nm (L.getD j 0 - t * D.getD j 0) else L.getD j 0

theorem set_bd {A : List Int} {k : Nat} {v : Int} (h : ∀ x ∈ A, 0 ≤ x ∧ x ≤ 2147483646) (hv : 0 ≤ v ∧ v ≤ 2147483646) : ∀ x ∈ A.set k v, 0 ≤ x ∧ x ≤ 2147483646 := fun x hx => by
  rcases List.mem_or_eq_of_mem_set hx with h1 | h1
  · exact h x h1
  · rw [h1]; exact hv
theorem tk_start (L D : List Int) (t : Int) (h : ∀ x ∈ L, 0 ≤ x ∧ x ≤ 2147483646) : Tk L D t 0 L := ⟨rfl, h, fun j _ => by rw [if_neg (by omega)]⟩
theorem tk_step {L D A : List Int} {t : Int} {k : Nat} (h : Tk L D t k A) (hk : k < L.length) {v : Int} (hv : v = nm (L.getD k 0 - t * D.getD k 0)) : Tk L D t (k + 1) (A.set k v) := by
  refine ⟨by rw [List.length_set]; exact h.len, set_bd h.bd (by rw [hv]; exact nm_bd _), fun j hj => ?_⟩
  rw [getD_set]
  by_cases e : j = k
  · subst e
    rw [if_pos ⟨rfl, by rw [h.len]; exact hk⟩, if_pos (by omega), hv]
  · rw [if_neg (by omega), h.at_ j hj]
    by_cases e2 : j < k
    · rw [if_pos e2, if_pos (by omega)]
    · rw [if_neg e2, if_neg (by omega)]

set_option maxHeartbeats 400000 in
set_option maxRecDepth 100000 in
theorem cTake (g n : Nat) (L : List Int) (ab : Option Addr) (cb : Nat) (D : List Int) (t : Int) (w : World)
    (hL : Blk w g L) (hLb : ∀ x ∈ L, 0 ≤ x ∧ x ≤ 2147483646) (hD : Rd w ab n cb D) (hne : ∀ x, ab = some x → x.block ≠ g) (hln : L.length = n) (hn : n ≤ 1000000) (ht0 : 0 ≤ t) (ht1 : t ≤ 18446744073709551615) :
    Calls Tryd.prog 123 #[.slice (some ⟨g, 0, none⟩) n n, .slice ab n cb, .int .u64 t] w fun e w' => ∃ A, e = .returned (.tuple #[]) ∧ Tk L D t n A ∧ Blk w' g A ∧ w.grownBy w' (some g) := by
  have hlen := hD.len
  go_enter Tryd.func123, Tryd.ntmps123
  go_wp2
  go_loopw [10] (fun i wr => ∃ (k : Nat) (A : List Int), k ≤ n ∧ i = .int .i64 k ∧ Hid (Tk L D t k A) ∧ Blk wr g A ∧ w.grownBy wr (some g)) (fun i _ => n - (intOf i).toNat)
  case atStart => exact ⟨0, L, Nat.zero_le _, rfl, tk_start L D t hLb, hL, World.grownBy.refl _ _⟩
  case round =>
    obtain ⟨k, A, hk, rfl, HT, hblk, hgr⟩ := hrel
    have hlA : A.length = n := by rw [HT.out.len]; exact hln
    by_cases hlt : k < n
    · have hDr : Rd wr ab n cb D := hD.grown hgr (fun x hx => by simpa using hne x hx)
      obtain ⟨b, ob, x, rfl, hb, HX, hx0, hx1, hc⟩ := hDr.one hlt
      have hbg : b ≠ g := hne _ rfl
      have hcell := hblk.cell (i := k) (by omega)
      have hfz := hblk.frozen k
      obtain ⟨y, hy⟩ : ∃ y, y = A.getD k 0 := ⟨_, rfl⟩
      have HY : Hid (y = L.getD k 0) := by rw [hy, HT.out.at_ _ (by omega), if_neg (by omega)]; exact rfl
      have hyb : 0 ≤ y ∧ y ≤ 2147483646 := by rw [hy]; exact getD_bd' HT.out.bd _
      rw [← hy] at hcell
      clear hy
      have hm := nm_bd (t * x)
      have hk0 : (0 : Int) ≤ (k : Int) := by omega
      have hkn : (k : Int) < (n : Int) := by omega
      have HT2 : Hid (Tk L D t (k + 1) (A.set k (nm (y - nm (t * x))))) := tk_step HT.out (by omega) (by rw [nm_subr, HY.out, HX.out])
      have Hblk' : Hid (Blk (wr.setCell ⟨g, k, none⟩ (.int .u64 (nm (y - nm (t * x))))) g (A.set k (nm (y - nm (t * x))))) := hblk.set k _
      have Hgr' : Hid (w.grownBy (wr.setCell ⟨g, k, none⟩ (.int .u64 (nm (y - nm (t * x))))) (some g)) := grown_trans hgr (grown_set _ _ _ _)
      clear hblk hgr hDr hD hL HT
      go_wp2
      go_region_with (first | (go_at_call 49; refine (fMul _ _ _ (by omega) (by omega) (by omega) (by omega)).mono ?_; rintro e w' ⟨rfl, rfl⟩) | (go_at_call 59; refine (fSub _ _ _ (by omega) (by omega) (by omega) (by omega)).mono ?_; rintro e w' ⟨rfl, rfl⟩))
      all_goals
        go_wp2
        go_roundw
        case rel => exact ⟨k + 1, _, by omega, by go_num, HT2, Hblk'.out, grown_drew Hgr'.out⟩
        case measure => simp [intOf]; omega
    · have hkl : k = n := by omega
      subst hkl
      go_wp2
      exact bodyPost_end (v := .tuple #[]) (by simp [results, Tryd.results123, go_sem]) rfl ⟨A, rfl, HT.out, hblk, hgr⟩
end Go.Proofs.YtgmelcdgnjcojagDoor

namespace Go.Proofs.YtgmelcdgnjcojagDoor
open Go.RowKit Crm

/-- The list in row gl has n rows of W numbers, the i-th in the block G i: M i. All these blocks lie from lo on and ahead of hi. -/
structure Mx (w : World) (lo hi gl n W : Nat) (G : Nat → Nat) (M : Nat → List Int) : Prop where
  lst : ∃ cur : Array Value, w.heap[gl]? = some (.cells cur 22 (0, 0)) ∧ cur.size = n ∧ ∀ i, i < n → cur[i]? = some (.slice (some ⟨G i, 0, none⟩) W W)
  gb : lo ≤ gl ∧ gl < hi
  rng : ∀ i, i < n → lo ≤ G i ∧ G i < hi ∧ G i ≠ gl
  inj : ∀ i j, i < n → j < n → G i = G j → i = j
  row : ∀ i, i < n → Blk w (G i) (M i)
  wid : ∀ i, i < n → (M i).length = W
  bd : ∀ i, i < n → ∀ x ∈ M i, 0 ≤ x ∧ x ≤ 2147483646
  hw : hi ≤ w.heap.size

/-- Nothing has turned but between lo and hi. -/
structure Fr (lo hi : Nat) (w w' : World) : Prop where
  os : w'.os = w.os
  tape : w'.tape = w.tape
  output : w'.output = w.output
  size : w.heap.size ≤ w'.heap.size
  block : ∀ k, k < w.heap.size → (k < lo ∨ hi ≤ k) → w'.heap[k]? = w.heap[k]?
theorem Fr.refl (lo hi : Nat) (w : World) : Fr lo hi w w := ⟨rfl, rfl, rfl, Nat.le_refl _, fun _ _ _ => rfl⟩
theorem Fr.trans {lo hi : Nat} {a b c : World} (h : Fr lo hi a b) (k : Fr lo hi b c) : Fr lo hi a c :=
  ⟨k.os.trans h.os, k.tape.trans h.tape, k.output.trans h.output, Nat.le_trans h.size k.size, fun i hi hr => (k.block i (Nat.lt_of_lt_of_le hi h.size) hr).trans (h.block i hi hr)⟩
theorem Fr.grown {lo hi g : Nat} {w w' : World} (h : w.grownBy w' (some g)) (h1 : lo ≤ g) (h2 : g < hi) : Fr lo hi w w' :=
  ⟨h.os, h.tape, h.output, h.size, fun k hk hr => h.block k hk (by simp; omega)⟩
theorem Fr.below {lo hi : Nat} {w w' : World} (h : Fr lo hi w w') (hl : lo ≤ w.heap.size) : Below lo w w' := ⟨h.os, h.tape, h.output, h.size, fun k hk => h.block k (by omega) (.inl hk)⟩
theorem Fr.drew {lo hi : Nat} {w w' : World} (h : Fr lo hi w w') : Fr lo hi w w'.drew := ⟨h.os, h.tape, h.output, h.size, h.block⟩
theorem Fr.own {lo hi : Nat} {w w' : World} (h : Fr lo hi w w') {E : TypeId} {v : Value} {n base : Nat} {xs : List Value} (hbase : hi ≤ base) (ho : w.ownsRow base E 1 v n xs) : w'.ownsRow base E 1 v n xs := by
  refine ⟨ho.1, ?_⟩
  rcases ho.2 with hn | ⟨g, cap, cur, rfl, hb, hgg, rest⟩
  · exact .inl hn
  · exact .inr ⟨g, cap, cur, rfl, hb, by rw [h.block g (Array.getElem?_eq_some_iff.1 hgg).1 (.inr (by omega))]; exact hgg, rest⟩
theorem Fr.own_grown {lo hi : Nat} {w w' w'' : World} {row : Option Nat} (h : Fr lo hi w w') (hg : w'.grownBy w'' row) (hr : ∀ k, row = some k → w.heap.size ≤ k) : Fr lo hi w w'' :=
  ⟨hg.os.trans h.os, hg.tape.trans h.tape, hg.output.trans h.output, Nat.le_trans h.size hg.size, fun k hk hkr => (hg.block k (Nat.lt_of_lt_of_le hk h.size) (fun e => by have := hr k e.symm; omega)).trans (h.block k hk hkr)⟩


theorem Mx.cell {w : World} {lo hi gl n W : Nat} {G : Nat → Nat} {M : Nat → List Int} (h : Mx w lo hi gl n W G M) {i : Nat} (hi' : i < n) : w.cell? ⟨gl, i, none⟩ = some (.slice (some ⟨G i, 0, none⟩) W W) := by
  obtain ⟨cur, h1, h2, h3⟩ := h.lst
  rw [cell_of_row w gl i _ _ (0, 0) h1]; exact h3 i hi'
theorem Mx.frozen {w : World} {lo hi gl n W : Nat} {G : Nat → Nat} {M : Nat → List Int} (h : Mx w lo hi gl n W G M) (i : Nat) : w.frozen? ⟨gl, i, none⟩ = false := by
  obtain ⟨cur, h1, h2, h3⟩ := h.lst
  exact frozen_of_row w gl i _ _ h1
theorem Mx.num {w : World} {lo hi gl n W : Nat} {G : Nat → Nat} {M : Nat → List Int} (h : Mx w lo hi gl n W G M) {i j : Nat} (hi' : i < n) (hj : j < W) : w.cell? ⟨G i, j, none⟩ = some (.int .u64 ((M i).getD j 0)) := (h.row i hi').cell (by rw [h.wid i hi']; exact hj)
theorem Mx.rd {w : World} {lo hi gl n W : Nat} {G : Nat → Nat} {M : Nat → List Int} (h : Mx w lo hi gl n W G M) {i : Nat} (hi' : i < n) (hm : W ≤ maxLen) : Rd w (some ⟨G i, 0, none⟩) W W (M i) := (h.row i hi').whole W (h.wid i hi').symm hm (bd_u64 (h.bd i hi'))
theorem Mx.nbd {w : World} {lo hi gl n W : Nat} {G : Nat → Nat} {M : Nat → List Int} (h : Mx w lo hi gl n W G M) {i : Nat} (hi' : i < n) (j : Nat) : 0 ≤ (M i).getD j 0 ∧ (M i).getD j 0 ≤ 2147483646 := getD_bd' (h.bd i hi') j
theorem Mx.below {w : World} {lo hi gl n W : Nat} {G : Nat → Nat} {M : Nat → List Int} (h : Mx w lo hi gl n W G M) {w' : World} (hb : Below hi w w') : Mx w' lo hi gl n W G M := by
  refine ⟨?_, h.gb, h.rng, h.inj, fun i hi' => ?_, h.wid, h.bd, Nat.le_trans h.hw hb.size⟩
  · obtain ⟨cur, h1, h2⟩ := h.lst
    exact ⟨cur, by rw [hb.block gl h.gb.2]; exact h1, h2⟩
  · exact (h.row i hi').below hb (h.rng i hi').2.1
theorem Mx.drew {w : World} {lo hi gl n W : Nat} {G : Nat → Nat} {M : Nat → List Int} (h : Mx w lo hi gl n W G M) : Mx w.drew lo hi gl n W G M := ⟨h.lst, h.gb, h.rng, h.inj, h.row, h.wid, h.bd, h.hw⟩
/-- Row i has been written anew. -/
theorem Mx.put {w : World} {lo hi gl n W : Nat} {G : Nat → Nat} {M : Nat → List Int} (h : Mx w lo hi gl n W G M) {w' : World} {i : Nat} (hi' : i < n) (hg : w.grownBy w' (some (G i))) {A : List Int} (hA : Blk w' (G i) A) (hl : A.length = W) (hb : ∀ x ∈ A, 0 ≤ x ∧ x ≤ 2147483646) :
    Mx w' lo hi gl n W G (fun k => if k = i then A else M k) := by
  refine ⟨?_, h.gb, h.rng, h.inj, fun k hk => ?_, fun k hk => ?_, fun k hk => ?_, Nat.le_trans h.hw hg.size⟩
  · obtain ⟨cur, h1, h2⟩ := h.lst
    refine ⟨cur, ?_, h2⟩
    rw [hg.block gl (Array.getElem?_eq_some_iff.1 h1).1 (by simpa using (h.rng i hi').2.2.symm)]
    exact h1
  · by_cases e : k = i
    · subst e; simpa using hA
    · rw [if_neg e]
      exact (h.row k hk).grown hg (by simp only [ne_eq, Option.some.injEq]; exact fun e2 => e (h.inj k i hk hi' e2))
  · by_cases e : k = i
    · rw [if_pos e]; exact hl
    · rw [if_neg e]; exact h.wid k hk
  · by_cases e : k = i
    · rw [if_pos e]; exact hb
    · rw [if_neg e]; exact h.bd k hk
/-- Rows k and p have changed places. -/
theorem Mx.swap {w : World} {lo hi gl n W : Nat} {G : Nat → Nat} {M : Nat → List Int} (h : Mx w lo hi gl n W G M) {k p : Nat} (hk : k < n) (hp : p < n) :
    Mx ((w.setCell ⟨gl, k, none⟩ (.slice (some ⟨G p, 0, none⟩) W W)).setCell ⟨gl, p, none⟩ (.slice (some ⟨G k, 0, none⟩) W W)) lo hi gl n W (fun i => G (if i = k then p else if i = p then k else i)) (fun i => M (if i = k then p else if i = p then k else i)) := by
  have hs : ∀ i, i < n → (if i = k then p else if i = p then k else i) < n := fun i hi => by split <;> (try split) <;> omega
  have hbl : ∀ g, g ≠ gl → ((w.setCell ⟨gl, k, none⟩ (.slice (some ⟨G p, 0, none⟩) W W)).setCell ⟨gl, p, none⟩ (.slice (some ⟨G k, 0, none⟩) W W)).heap[g]? = w.heap[g]? := fun g hg => by
    rw [heap_setCell_other _ _ _ _ (by simpa using hg), heap_setCell_other _ _ _ _ (by simpa using hg)]
  refine ⟨?_, h.gb, fun i hi => h.rng _ (hs i hi), fun i j hi hj e => ?_, fun i hi => ?_, fun i hi => h.wid _ (hs i hi), fun i hi => h.bd _ (hs i hi), by simpa using h.hw⟩
  · obtain ⟨cur, h1, h2, h3⟩ := h.lst
    refine ⟨_, heap_setCell_same _ gl p _ _ _ (heap_setCell_same w gl k _ _ _ h1), by simpa using h2, fun i hi => ?_⟩
    rw [Array.getElem?_setIfInBounds, Array.getElem?_setIfInBounds]
    by_cases e1 : p = i
    · subst e1
      by_cases e2 : p = k
      · subst e2; simp [h2, hp]
      · simp [h2, hp, e2]
    · by_cases e2 : k = i
      · subst e2; simp [h2, hk, e1]
      · rw [if_neg e1, if_neg e2, h3 i hi, if_neg (fun e => e2 e.symm), if_neg (fun e => e1 e.symm)]
  · have := h.inj _ _ (hs i hi) (hs j hj) e
    split at this <;> split at this <;> (try split at this) <;> (try split at this) <;> omega
  · unfold Blk
    rw [hbl _ (h.rng _ (hs i hi)).2.2]
    exact h.row _ (hs i hi)
theorem fr_set2 (w : World) {lo hi gl : Nat} (h1 : lo ≤ gl) (h2 : gl < hi) (k p : Nat) (u v : Value) : Fr lo hi w ((w.setCell ⟨gl, k, none⟩ u).setCell ⟨gl, p, none⟩ v) :=
  (Fr.grown (grown_set w gl k u) h1 h2).trans (Fr.grown (grown_set _ gl p v) h1 h2)
theorem cell?_setCell_some {w : World} {p q : Addr} {x v : Value} (h : w.cell? q = some v) : ∃ v', (w.setCell p x).cell? q = some v' := by
  by_cases e : p = q
  · subst e; exact ⟨x, World.cell?_setCell_same w p x h⟩
  · exact ⟨v, (World.cell?_setCell_other w p q x e).trans h⟩

/-- L, of which the first k numbers have been taken times u. -/
structure Sc (L : List Int) (u : Int) (k : Nat) (A : List Int) : Prop where
  len : A.length = L.length
  bd : ∀ x ∈ A, 0 ≤ x ∧ x ≤ 2147483646
  at_ : ∀ j, j < L.length → A.getD j 0 = if j < k then nm (L.getD j 0 * u) else L.getD j 0
theorem sc_start (L : List Int) (u : Int) (h : ∀ x ∈ L, 0 ≤ x ∧ x ≤ 2147483646) : Sc L u 0 L := ⟨rfl, h, fun j _ => by rw [if_neg (by omega)]⟩
theorem sc_step {L A : List Int} {u : Int} {k : Nat} (h : Sc L u k A) (hk : k < L.length) {v : Int} (hv : v = nm (L.getD k 0 * u)) : Sc L u (k + 1) (A.set k v) := by
  refine ⟨by rw [List.length_set]; exact h.len, set_bd h.bd (by rw [hv]; exact nm_bd _), fun j hj => ?_⟩
  rw [getD_set]
  by_cases e : j = k
  · subst e
    rw [if_pos ⟨rfl, by rw [h.len]; exact hk⟩, if_pos (by omega), hv]
  · rw [if_neg (by omega), h.at_ j hj]
    by_cases e2 : j < k
    · rw [if_pos e2, if_pos (by omega)]
    · rw [if_neg e2, if_neg (by omega)]
end Go.Proofs.YtgmelcdgnjcojagDoor

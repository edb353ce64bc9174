/- twine.Deal. · Rows by party: the table that package twine makes of rows. -/
import Derived.Test.YtnofegdlainjaaeToLsV
import Derived.Test.YtnofegdlainjaaeToTwFillC
import Derived.Test.YtnofegdlainjaaeToTwDlM
import Derived.Deep.WholeRow
import Derived.Test.YtnofegdlainjaaeToHdDef
import Derived.Laws.Rows
import Derived.Laws.Tables
namespace Go.Proofs.Ytnofegdlainjaae
open Go.RowKit Crm

set_option maxRecDepth 100000 in
set_option maxHeartbeats 2000000 in
theorem cTwDeal (s t : Int) (a0 : Option Addr) (m c0 : Nat) (ds : List Int) (n : Int) (w : World) (h : Rd w a0 m c0 ds) (hs0 : 0 ≤ s) (hs1 : s ≤ 18446744073709551615) : Calls Try.prog 22 #[.int .u64 s, .int .i64 t, .slice a0 m c0, .int .i64 n] w fun e w' => Dwl s ds t n m w e w' := by
  obtain ⟨i0, hi, hz0, hz1, hz2⟩ := info_parts infoRow
  have hcap := h.cap
  have hmax := h.max
  unfold maxLen at hmax
  go_enter Try.func22, Try.ntmps22
  go_wp2_with fail
  refine (cTwNeed _ _).mono ?_
  rintro e w1 ⟨⟨hT, rfl⟩ | ⟨k, rfl, hk4, rfl⟩, hb1⟩
  · have HT : Hid (t < 0 ∨ 4 < t) := hT
    clear hT
    go_wp2
    go_ret2
    exact ⟨.inl ⟨fun k hk => by have := hk.1; have := hk.2.1; have := HT.out; omega, rfl⟩, hb1⟩
  · have hn14 := need2_bd hk4
    obtain ⟨N, HN⟩ : ∃ N, Hid (need2 k = N) := ⟨_, rfl⟩
    rw [HN.out] at hn14
    rw [HN.out]
    by_cases hmN : m = N
    · have HMN : Hid (m = N) := hmN
      have hmb : ((m : Int) != (N : Int)) = false := by rw [bne_eq_false_iff_eq]; omega
      have hm14 : m ≤ 14 := by omega
      clear hmN
      by_cases hnk : n ≤ (k : Int)
      · go_wp2
        go_ret2
        exact ⟨.inl ⟨fun j hj => by have h1 := hj.1; have h2 := hj.2.2.2.1; omega, rfl⟩, hb1⟩
      · by_cases hn9 : 9 < n
        · go_wp2
          go_ret2
          exact ⟨.inl ⟨fun j hj => by have h2 := hj.2.2.2.2; omega, rfl⟩, hb1⟩
        · obtain ⟨q, rfl⟩ : ∃ q : Nat, n = q := ⟨n.toNat, by omega⟩
          have hq9 : q ≤ 9 := by omega
          go_wp2_with fail
          refine (cFill _ _ _ _ _ _ _ (h.below hb1) hs0 hs1 hk4 (by rw [HMN.out, HN.out])).mono ?_
          rintro e w2 ⟨⟨C, rfl, hSq⟩, hb2⟩
          have HSq : Hid (Sqr s ds k (k + 1) (k + 1) C) := hSq
          have hbw2 := hb1.trans (hb2.mono hb1.size)
          have hl := hSq.len
          have Hin : Hid ((Try.prog.info? 84).map (·.size) = some (C.map (Value.int .u64)).toArray.size) := by unfold Hid; simp only [List.size_toArray, List.length_map, hl]; exact infoSq
          have Hne : Hid (((List.replicate 25 (0 : Int)).map (Value.int .u64)).toArray.size = (C.map (Value.int .u64)).toArray.size) := by unfold Hid; simp [hl]
          have Hon : Hid ((C.map (Value.int .u64)).toArray.all (·.oneCell') = true) := by
            unfold Hid
            rw [Array.all_eq_true_iff_forall_mem]
            intro v hv
            obtain ⟨x, _, rfl⟩ := List.mem_map.1 (show v ∈ C.map (Value.int .u64) by simpa using hv)
            rfl
          have hQ : BlkQ (w2.alloc (.cells (C.map (Value.int .u64)).toArray 84)) w2.heap.size C := heap_alloc_new w2 _
          have hbA : Below w2.heap.size w2 (w2.alloc (.cells (C.map (Value.int .u64)).toArray 84)) := (Below.refl _ _).alloc (Nat.le_refl _) _
          have hbwA := hbw2.trans (hbA.mono hbw2.size)
          clear hSq hl hb1 hb2 hbw2 hbA
          go_wp2_with (first | (refine wpList_store_row rfl 84 _ _ rfl w2.heap.size (C.map (Value.int .u64)).toArray rfl rfl 84 ((List.replicate 25 (0 : Int)).map (Value.int .u64)).toArray (heap_alloc_new w2 _) Hin.out Hne.out Hon.out ?_; rw [World.setRow_alloc_new]; generalize w2.alloc (.cells (C.map (Value.int .u64)).toArray 84) = w3 at *) | (at_make; refine wpList_make_full _ rfl _ _ 47 rfl w3.heap.size 55 i0 (.agg #[.int .i64 0, .slice none 0 0]) 2 Try.underlying47 hi hz0 hz1 .i64 .i64 _ _ q rfl rfl (by omega) (by omega) (by rw [hz2]; omega) (by unfold maxLen; omega) (Nat.le_refl _) ?_; intro w4 hown hgrow))
          have hb4 : Below w3.heap.size w3 w4 := (Below.refl _ _).grown hgrow (Nat.le_refl _) (by simp)
          have hL4 := lsw_made hown
          rw [dlw_zero s ds k] at hL4
          have hQ4 := hQ.below hb4 hQ.lt
          have hq3 := hQ.lt
          clear hown hgrow hQ
          go_loopw [44] (fun i wr => ∃ (r : Nat) (L : List (Int × Value)), r ≤ q ∧ i = .int .i64 r ∧ LsW wr w3.heap.size (.slice (some ⟨w3.heap.size, 0, none⟩) q q) L (dlw s ds k q r) ∧ BlkQ wr w2.heap.size C ∧ Below w3.heap.size w3 wr) (fun i _ => q - (intOf i).toNat)
          case atStart => exact ⟨0, _, Nat.zero_le _, rfl, hL4, hQ4, hb4⟩
          case round =>
            clear hL4 hQ4 hb4
            obtain ⟨r, L, hr, rfl, hL, hQr, hb5⟩ := hrel
            have hs5 := hb5.size
            have hdl := dlw_len s ds k q r
            by_cases hrq : r < q
            · have HR1 : Hid ((r : Int) + 1 = ((r + 1 : Nat) : Int)) := by unfold Hid; push_cast; rfl
              have HRK : Hid (rowK s ds k ((r + 1 : Nat) : Int) (k + 1) = rowK s ds k ((r : Int) + 1) (k + 1)) := by unfold Hid; rw [HR1.out]
              go_wp2_with fail
              rw [HR1.out]
              refine (cSqRow _ _ _ _ _ (r + 1) _ hQr HSq.out hk4 (by omega)).mono ?_
              rintro e w6 ⟨u, rfl, hown6, hb6⟩
              rw [HRK.out] at hown6
              have hL6 := hL.below hb6
              have hQ6 := hQr.below hb6 hQr.lt
              have hb36 := hb5.trans (hb6.mono hs5)
              have hrl := rowK_len s ds k ((r : Int) + 1) (k + 1)
              have hnew := hL.new (Nat.le_refl _) hown6
              have hown7 : w6.ownsRow w3.heap.size 22 1 (.slice (some ⟨u, 0, none⟩) (k + 1) (k + 1)) (rowK s ds k ((r : Int) + 1) (k + 1)).length ((rowK s ds k ((r : Int) + 1) (k + 1)).map (Value.int .u64)) := by rw [hrl]; exact own_base hown6 hs5
              have HL8 := hL6.put (q := r) (x := (r : Int) + 1) hdl hrq hown7 hnew
              rw [dlw_set] at HL8
              obtain ⟨⟨v0, d0⟩, ⟨v1, d1⟩, f0, f1⟩ := hL6.cells hdl hrq
              have hlt6 : w3.heap.size < w6.heap.size := World.block_lt_of_cell? w6 _ d0
              have HL9 : Hid (LsW _ _ _ _ _) := HL8
              have HQ9 : Hid (BlkQ ((w6.setCell ⟨w3.heap.size, r * 2, none⟩ (.int .i64 ((r : Int) + 1))).setCell ⟨w3.heap.size, r * 2 + 1, none⟩ (.slice (some ⟨u, 0, none⟩) (k + 1) (k + 1))) w2.heap.size C) := (hQ6.other (by omega)).other (by omega)
              have HB9 : Hid (Below w3.heap.size w3 ((w6.setCell ⟨w3.heap.size, r * 2, none⟩ (.int .i64 ((r : Int) + 1))).setCell ⟨w3.heap.size, r * 2 + 1, none⟩ (.slice (some ⟨u, 0, none⟩) (k + 1) (k + 1)))) := (hb36.setCell (p := ⟨w3.heap.size, r * 2, none⟩) (Nat.le_refl _) _).setCell (p := ⟨w3.heap.size, r * 2 + 1, none⟩) (Nat.le_refl _) _
              clear hL HL8 hL6 hnew hown6 hown7 hQr hQ6 hb5 hb6 hb36 hrl hdl
              go_wp2
              go_roundw
              case rel => exact ⟨r + 1, _, by omega, by go_num, HL9.out, HQ9.out, HB9.out⟩
              case measure => simp [intOf]; omega
            · have hrq2 : r = q := by omega
              subst hrq2
              have hbE := hbwA.trans (hb5.mono hbwA.size)
              rw [dlw_full] at hL
              have hLE := hL.base hbwA.size
              go_wp2
              go_ret2
              exact ⟨.inr ⟨k, r, _, L, ⟨rfl, hk4, by rw [HMN.out, HN.out], by omega, by omega⟩, rfl, rfl, hLE⟩, hbE⟩
    · have hmb : ((m : Int) != (N : Int)) = true := by rw [bne_iff_ne]; omega
      have HMN : Hid (m ≠ N) := hmN
      clear hmN
      go_wp2
      go_ret2
      exact ⟨.inl ⟨fun j hj => by
        have h1 := hj.1
        have h2 := hj.2.2.1
        obtain rfl : k = j := by omega
        rw [HN.out] at h2
        exact HMN.out h2, rfl⟩, hb1⟩
end Go.Proofs.Ytnofegdlainjaae

namespace Go.Proofs.Ytnofegdlainjaae
open Go.RowKit Crm

/-- No row. -/
def nil10 : List Value := List.replicate 10 (.slice none 0 0)
/-- Block g holds the table S. -/
def BlkV (w : World) (g : Nat) (S : List Value) : Prop := w.heap[g]? = some (.cells S.toArray 88 (0, 0))
theorem BlkV.lt {w : World} {g : Nat} {S : List Value} (h : BlkV w g S) : g < w.heap.size := (Array.getElem?_eq_some_iff.1 h).1
theorem BlkV.cell {w : World} {g : Nat} {S : List Value} (h : BlkV w g S) {i : Nat} {v : Value} (hi : S[i]? = some v) : w.cell? ⟨g, i, none⟩ = some v := by
  rw [cell_of_row w g i _ _ (0, 0) h]
  simpa using hi
theorem BlkV.frozen {w : World} {g : Nat} {S : List Value} (h : BlkV w g S) (i : Nat) : w.frozen? ⟨g, i, none⟩ = false := frozen_of_row w g i _ _ h
theorem BlkV.set {w : World} {g : Nat} {S : List Value} (h : BlkV w g S) (i : Nat) (v : Value) : BlkV (w.setCell ⟨g, i, none⟩ v) g (S.set i v) := by
  have := heap_setCell_same w g i _ _ v h
  unfold BlkV
  rw [this]
  simp
theorem BlkV.below {w w' : World} {B g : Nat} {S : List Value} (h : BlkV w g S) (hb : Below B w w') (hg : g < B) : BlkV w' g S := by
  unfold BlkV; rw [hb.block g hg]; exact h
theorem BlkV.other {w : World} {g g' i : Nat} {S : List Value} {v : Value} (h : BlkV w g S) (hg : g' ≠ g) : BlkV (w.setCell ⟨g', i, none⟩ v) g S := by
  unfold BlkV; rw [heap_setCell_other w ⟨g', i, none⟩ g v (fun e => hg e.symm)]; exact h

/-- The table has the first k rows of l, each at its party. -/
structure Pt (w : World) (l : List (Int × List Int)) (k : Nat) (S : List Value) : Prop where
  len : S.length = 10
  row : ∀ p : Nat, p < 10 → ∃ a m c, S[p]? = some (.slice a m c) ∧ m ≤ 5 ∧ ((m = 0 ∧ ∀ r, r < k → ta l r ≠ (p : Int)) ∨ (∃ r, r < k ∧ ta l r = (p : Int) ∧ 1 ≤ m ∧ Rd w a m c (tc l r)))
  rwk : Rwk l k
theorem Pt.below {w w' : World} {l : List (Int × List Int)} {k : Nat} {S : List Value} (h : Pt w l k S) (hb : Below w.heap.size w w') : Pt w' l k S := by
  refine ⟨h.len, fun p hp => ?_, h.rwk⟩
  obtain ⟨a, m, c, h1, h2, h3⟩ := h.row p hp
  refine ⟨a, m, c, h1, h2, ?_⟩
  rcases h3 with h3 | ⟨r, r1, r2, r3, r4⟩
  · exact .inl h3
  · exact .inr ⟨r, r1, r2, r3, r4.below hb⟩
theorem pt_start (w : World) (l : List (Int × List Int)) : Pt w l 0 nil10 :=
  ⟨rfl, fun p hp => ⟨none, 0, 0, by unfold nil10; rw [List.getElem?_replicate, if_pos hp], by omega, .inl ⟨rfl, fun r hr => by omega⟩⟩, rwk_zero l⟩
theorem pt_step {w : World} {l : List (Int × List Int)} {k p m c c0 : Nat} {S : List Value} {a a0 : Option Addr} (h : Pt w l k S) (hp : ta l k = (p : Int)) (h1 : 1 ≤ p) (h9 : p ≤ 9) (hr : Rd w a m c (tc l k)) (m1 : 1 ≤ m) (m5 : m ≤ 5) (hS : S[p]? = some (.slice a0 0 c0)) : Pt w l (k + 1) (S.set p (.slice a m c)) := by
  have hno : ∀ r, r < k → ta l r ≠ (p : Int) := by
    obtain ⟨a', m', c', e1, e2, e3⟩ := h.row p (by omega)
    rw [hS] at e1
    simp only [Option.some.injEq, Value.slice.injEq] at e1
    obtain ⟨rfl, rfl, rfl⟩ := e1
    rcases e3 with e3 | ⟨r, _, _, e4, _⟩
    · exact e3.2
    · omega
  have hl := h.len
  refine ⟨by rw [List.length_set]; exact hl, fun q hq => ?_, rwk_succ h.rwk hp hr.len (by omega) (by omega) m1 m5 hno⟩
  by_cases e : q = p
  · subst e
    exact ⟨a, m, c, by rw [List.getElem?_set_self (by omega)], m5, .inr ⟨k, by omega, hp, m1, hr⟩⟩
  · obtain ⟨a', m', c', e1, e2, e3⟩ := h.row q hq
    refine ⟨a', m', c', by rw [List.getElem?_set_ne (fun e' => e e'.symm)]; exact e1, e2, ?_⟩
    rcases e3 with ⟨e3, e4⟩ | ⟨r, e3, e4, e5, e6⟩
    · refine .inl ⟨e3, fun r hr => ?_⟩
      by_cases er : r = k
      · rw [er, hp]; omega
      · exact e4 r (by omega)
    · exact .inr ⟨r, by omega, e4, e5, e6⟩
theorem pt_twice {w : World} {l : List (Int × List Int)} {k n p m c : Nat} {S : List Value} {a : Option Addr} (h : Pt w l k S) (hk : k < n) (hp : ta l k = (p : Int)) (h9 : p ≤ 9) (hS : S[p]? = some (.slice a m c)) (hm : 0 < m) : ¬ Rwk l n := fun hR => by
  obtain ⟨a', m', c', e1, e2, e3⟩ := h.row p (by omega)
  rw [hS] at e1
  simp only [Option.some.injEq, Value.slice.injEq] at e1
  obtain ⟨rfl, rfl, rfl⟩ := e1
  rcases e3 with e3 | ⟨r, e4, e5, _, _⟩
  · omega
  · exact (hR k hk).1.2 r e4 (by rw [e5, hp])
theorem nil10_one : (nil10.toArray.all (·.oneCell')) = true := by
  rw [Array.all_eq_true_iff_forall_mem]
  intro v hv
  obtain rfl := List.eq_of_mem_replicate (show v ∈ List.replicate 10 _ from (by simpa [nil10] using hv : v ∈ nil10))
  rfl
theorem Pt.one {w : World} {l : List (Int × List Int)} {k : Nat} {S : List Value} (h : Pt w l k S) : (S.toArray.all (·.oneCell')) = true := by
  rw [Array.all_eq_true_iff_forall_mem]
  intro v hv
  obtain ⟨i, hi, rfl⟩ := List.getElem_of_mem (show v ∈ S by simpa using hv)
  obtain ⟨a, m, c, h1, _⟩ := h.row i (by have := h.len; omega)
  rw [List.getElem?_eq_getElem hi] at h1
  rw [Option.some.inj h1]
  rfl
theorem Pt.size {w : World} {l : List (Int × List Int)} {k : Nat} {S : List Value} (h : Pt w l k S) : S.toArray.size = 10 := by simpa using h.len
/-- What byParty answers. -/
def Byp (l : List (Int × List Int)) (n : Nat) (w : World) (e : Ending) (w' : World) : Prop :=
  ((∃ S, Pt w' l n S ∧ e = .returned (.tuple #[.agg S.toArray, .bool true])) ∨ (¬ Rwk l n ∧ e = .returned (.tuple #[.agg nil10.toArray, .bool false]))) ∧ Below w.heap.size w w'
end Go.Proofs.Ytnofegdlainjaae

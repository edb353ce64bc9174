/- Two lists of rows, all rows of both the call's own, no two of them one. · gate.Mul. · Package keys: keep, withDealt, both. -/
import Derived.Test.YtgmelcdgnjcojafToRStB
import Derived.Test.YtgmelcdgnjcojafToGateWC
import Derived.Test.YtgmelcdgnjcojafToMapU
import Derived.Test.YtgmelcdgnjcojafToEnD
import Derived.BigQuiet
namespace Go.Proofs.Ytgmelcdgnjcojaf
open Go.RowKit Crm

/-- The blocks of A are none of B's. -/
def Apt (A B : List Value) : Prop := ∀ i j, (A.getD i (.slice none 0 0)).ownBlock = none ∨ (A.getD i (.slice none 0 0)).ownBlock ≠ (B.getD j (.slice none 0 0)).ownBlock
theorem Apt.symm {A B : List Value} (h : Apt A B) : Apt B A := fun i j => by
  rcases h j i with e | e
  · by_cases hb : (B.getD i (.slice none 0 0)).ownBlock = none
    · exact .inl hb
    · exact .inr (by rw [e]; exact hb)
  · exact .inr (fun e' => e e'.symm)
theorem apt_nil (B : List Value) : Apt [] B := fun _ _ => .inl rfl
theorem apt_rep (n : Nat) (B : List Value) : Apt (List.replicate n (.slice none 0 0)) B := fun _ _ => .inl (by
  rw [List.getD_eq_getElem?_getD, List.getElem?_replicate]
  split <;> rfl)
/-- A row of A is laid anew: where it lay, or where nothing lay. -/
theorem Apt.set {A B : List Value} {q H : Nat} {u : Value} (h : Apt A B) (hq : q < A.length) (hB : ∀ j k, (B.getD j (.slice none 0 0)).ownBlock = some k → k < H) (hu : u.ownBlock = (A.getD q (.slice none 0 0)).ownBlock ∨ ∃ k, u.ownBlock = some k ∧ H ≤ k) : Apt (A.set q u) B := fun i j => by
  rw [getD_setV _ _ _ _ _ hq]
  by_cases e : i = q
  · rw [if_pos e]
    rcases hu with hu | ⟨k, hu, hk⟩
    · rw [hu]; exact h q j
    · right
      rw [hu]
      intro e'
      have := hB j k e'.symm
      omega
  · rw [if_neg e]; exact h i j
/-- One row more in A. -/
theorem Apt.add {A B : List Value} {u : Value} (h : Apt A B) (hu : ∀ j, u.ownBlock = none ∨ u.ownBlock ≠ (B.getD j (.slice none 0 0)).ownBlock) : Apt (A ++ [u]) B := fun i j => by
  rw [List.getD_eq_getElem?_getD]
  rcases Nat.lt_trichotomy i A.length with e | e | e
  · rw [List.getElem?_append_left e, ← List.getD_eq_getElem?_getD]; exact h i j
  · rw [List.getElem?_append_right (by omega), e, Nat.sub_self]; exact hu j
  · rw [List.getElem?_eq_none (by simp; omega)]; exact .inl rfl
/-- Rows that are there lie below. -/
theorem LsV.blk {w : World} {B : Nat} {v : Value} {L : List Value} {rows : List (List Int)} (h : LsV w B v L rows) : ∀ j k, (L.getD j (.slice none 0 0)).ownBlock = some k → B ≤ k ∧ k < w.heap.size := fun j k hk => by
  rcases Nat.lt_or_ge j rows.length with hj | hj
  · exact (h.row j hj).lt k hk
  · rw [List.getD_eq_getElem?_getD, List.getElem?_eq_none (by rw [h.len]; exact hj)] at hk
    simp [Value.ownBlock] at hk
/-- One row more: the outer list grows. -/
theorem LsV.add {w w' : World} {B : Nat} {v v' u : Value} {L : List Value} {rows : List (List Int)} {row : List Int} (h : LsV w B v L rows) (hr : w.ownsRow B 23 1 u row.length (row.map (Value.int .u64)))
    (hnew : ∀ i, i < rows.length → (L.getD i (.slice none 0 0)).ownBlock = none ∨ (L.getD i (.slice none 0 0)).ownBlock ≠ u.ownBlock)
    (ho : w'.ownsRow B 22 1 v' (rows.length + 1) (L ++ [u])) (hg : w.grownBy w' v.ownBlock) : LsV w' B v' (L ++ [u]) (rows ++ [row]) := by
  have hl := h.len
  have gl : ∀ i, i < rows.length → (rows ++ [row]).getD i [] = rows.getD i [] := fun i hi => by simp [List.getElem?_append_left hi]
  have gL : ∀ i, i < rows.length → (L ++ [u]).getD i (.slice none 0 0) = L.getD i (.slice none 0 0) := fun i hi => by simp [List.getElem?_append_left (show i < L.length by omega)]
  have gl' : (rows ++ [row]).getD rows.length [] = row := by simp
  have gL' : (L ++ [u]).getD rows.length (.slice none 0 0) = u := by rw [← hl]; simp
  have hE : (22 : TypeId) ≠ 23 := by decide
  refine ⟨by simpa using ho, by simp [hl], fun i hi => ?_, fun i j hij hj => ?_⟩
  · have hi2 : i < rows.length + 1 := by simpa using hi
    by_cases e : i = rows.length
    · subst e; rw [gl', gL']; exact hr.kept hg (own_apart h.own hr hE)
    · rw [gl i (by omega), gL i (by omega)]; exact (h.row i (by omega)).kept hg (own_apart h.own (h.row i (by omega)) hE)
  · have hj2 : j < rows.length + 1 := by simpa using hj
    by_cases e : j = rows.length
    · subst e; rw [gL', gL i hij]; exact hnew i hij
    · rw [gL i (by omega), gL j (by omega)]; exact h.inj i j hij (by omega)
/-- A list of rows stays while one row of the other grows. -/
theorem LsV.beside {w w' : World} {B : Nat} {v : Value} {L M : List Value} {rows : List (List Int)} {q : Nat} {E : TypeId} {k : Nat} {xs : List Value} {B2 : Nat} (h : LsV w B v L rows) (ha : Apt L M) (hr : w.ownsRow B2 E 1 (M.getD q (.slice none 0 0)) k xs) (hE : E = 23) (hg : w.grownBy w' (M.getD q (.slice none 0 0)).ownBlock) : LsV w' B v L rows := by
  subst hE
  exact h.grown hg (own_apart hr h.own (by decide)) (fun i _ => ha i q)
end Go.Proofs.Ytgmelcdgnjcojaf

namespace Go.Proofs.Ytgmelcdgnjcojaf
open Go.RowKit Crm

/-- The parties' products. -/
def pps (xs ys : List Int) (n : Nat) : List Int := (List.range n).map fun i => nm (xs.getD i 0 * ys.getD i 0)
theorem pps_len (xs ys : List Int) (n : Nat) : (pps xs ys n).length = n := by simp [pps]
theorem pps_getD (xs ys : List Int) {n i : Nat} (h : i < n) : (pps xs ys n).getD i 0 = nm (xs.getD i 0 * ys.getD i 0) := by simp [pps, h]
theorem pps_bd (xs ys : List Int) (n : Nat) : ∀ z ∈ pps xs ys n, 0 ≤ z ∧ z ≤ 18446744073709551615 := by
  intro z hz
  obtain ⟨i, _, rfl⟩ := List.mem_map.1 hz
  have := nm_bd (xs.getD i 0 * ys.getD i 0)
  omega
theorem pps_row (t : Nat) (xs ys ds : List Int) {n j : Nat} : gdr t (pps xs ys n) ds n n j = tmR t xs ys ds n j := by
  unfold gdr tmR
  rw [fil_full]
  refine List.map_congr_left fun i hi => ?_
  unfold pdC prC
  rw [pps_getD xs ys (List.mem_range.1 hi)]
theorem pps_all (t : Nat) (xs ys ds : List Int) (n : Nat) : gdi t (pps xs ys n) ds n n = tmG t xs ys ds n := by
  unfold gdi tmG
  exact List.map_congr_left fun j _ => pps_row t xs ys ds
theorem pps_out (t : Nat) (xs ys ds : List Int) (n : Nat) : (List.range n).map (fun j => wgs (tmG t xs ys ds n) n j n) = tmO t xs ys ds n n := by
  unfold tmO
  refine List.map_congr_left fun j hj => ?_
  unfold wgs tmf
  refine sm_ncongr fun i hi => ?_
  rw [tmG_getD t xs ys ds (List.mem_range.1 hj), tmR_getD t xs ys ds j hi]

/-- What Mul answers; no row of what was dealt is the list of the product. -/
def GtmA (t : Int) (xs ys ds : List Int) (n m q : Nat) (w : World) (e : Ending) (w' : World) : Prop :=
  ((∃ r, r ≠ 0 ∧ Gme t n m q r ∧ e = .returned (.tuple #[.slice none 0 0, .slice none 0 0, .int .i64 r])) ∨
   (Gme t n m q 0 ∧ ∃ v u L, e = .returned (.tuple #[v, u, .int .i64 0]) ∧ w'.ownsRow w.heap.size 23 1 v n ((tmO t.toNat xs ys ds n n).map (Value.int .u64)) ∧ LsV w' w.heap.size u L (tmG t.toNat xs ys ds n) ∧
      ∀ i, (L.getD i (.slice none 0 0)).ownBlock = none ∨ (L.getD i (.slice none 0 0)).ownBlock ≠ v.ownBlock)) ∧ Below w.heap.size w w'
theorem GtmA.rd {t : Int} {xs ys ds : List Int} {n m q : Nat} {w w' : World} {e : Ending} (h : GtmA t xs ys ds n m q w e w') : Gtm t xs ys ds n m q w e w' := by
  obtain ⟨h1 | ⟨h1, v, u, L, h2, h3, h4, _⟩, hb⟩ := h
  · exact ⟨.inl h1, hb⟩
  · exact ⟨.inr ⟨h1, v, u, L, h2, h3, h4⟩, hb⟩

set_option maxRecDepth 100000 in
set_option maxHeartbeats 1000000 in
theorem cGMulA (t : Int) (a : Option Addr) (n c : Nat) (xs : List Int) (b : Option Addr) (m d : Nat) (ys : List Int) (e0 : Option Addr) (q f : Nat) (ds : List Int) (w : World) (h : Rd w a n c xs) (g : Rd w b m d ys) (k : Rd w e0 q f ds) :
    Calls Try.prog 24 #[.int .i64 t, .slice a n c, .slice b m d, .slice e0 q f] w fun e w' => GtmA t xs ys ds n m q w e w' := by
  have hmx := h.max
  have hgx := g.max
  have hkx := k.max
  have hc := h.cap
  have gc := g.cap
  have kc := k.cap
  unfold maxLen at hmx hgx hkx
  by_cases h1 : t < 0
  · go_enter Try.func24, Try.ntmps24
    go_wp2
    go_ret3
    exact ⟨.inl ⟨1, by omega, .inl ⟨.inl h1, rfl⟩, rfl⟩, Below.refl _ _⟩
  · by_cases h2 : 4 < t
    · go_enter Try.func24, Try.ntmps24
      go_wp2
      go_ret3
      exact ⟨.inl ⟨1, by omega, .inl ⟨.inr h2, rfl⟩, rfl⟩, Below.refl _ _⟩
    · obtain ⟨k4, rfl⟩ : ∃ k : Nat, t = k := ⟨t.toNat, by omega⟩
      have HT : Hid (((k4 : Nat) : Int).toNat = k4) := by unfold Hid; omega
      go_enter Try.func24, Try.ntmps24
      go_wp2_with fail
      refine (cBothMul _ _ _ _ _ _ _ _ _ h g).mono ?_
      rintro e w1 ⟨⟨hn, rfl⟩ | ⟨hn, v, rfl, ho⟩, hb⟩
      · have HG : Hid (Gme k4 n m q 5) := .inr ⟨⟨by omega, by omega⟩, .inl ⟨hn, rfl⟩⟩
        clear hn
        go_wp2
        go_ret3
        exact ⟨.inl ⟨5, by omega, HG.out, rfl⟩, hb⟩
      · have HY : Hid (Wr2 n m) := hn
        clear hn
        obtain rfl : m = n := HY.out.2
        have hn1 := HY.out.1.1
        have hn9 := HY.out.1.2
        change w1.ownsRow _ _ _ _ _ ((pps xs ys m).map (Value.int .u64)) at ho
        obtain ⟨av, cv, rfl, hrv, _⟩ := Rd.own ho (pps_bd xs ys m)
        clear ho
        by_cases h3 : m < 2 * k4 + 1
        · have HG : Hid (Gme k4 m m q 4) := .inr ⟨⟨by omega, by omega⟩, .inr ⟨HY.out, .inl ⟨by omega, rfl⟩⟩⟩
          clear hrv
          go_wp2
          go_ret3
          exact ⟨.inl ⟨4, by omega, HG.out, rfl⟩, hb⟩
        · obtain ⟨P, HP⟩ : ∃ P, Hid (m * k4 = P) := ⟨_, rfl⟩
          have hP : (m : Int) * (k4 : Int) = (P : Int) := by rw [← HP.out]; push_cast; rfl
          have hP36 : P ≤ 36 := by rw [← HP.out]; exact Nat.le_trans (Nat.mul_le_mul hn9 (show k4 ≤ 4 by omega)) (by omega)
          by_cases hq : q = P
          · have hqb : ((q : Int) != (P : Int)) = false := by rw [bne_eq_false_iff_eq]; omega
            have HQ : Hid (q = m * k4) := by unfold Hid; rw [HP.out]; exact hq
            have HG : Hid (Gme k4 m m q 0) := .inr ⟨⟨by omega, by omega⟩, .inr ⟨HY.out, .inr ⟨by omega, .inr ⟨by rw [hP]; omega, rfl⟩⟩⟩⟩
            clear hq
            go_wp2_with fail
            refine (cDealAll _ _ _ _ _ _ _ _ _ _ hrv (k.below hb) (by omega) (by omega) hn9 HQ.out).mono ?_
            rintro e w2 ⟨u, L, rfl, hL, hb2⟩
            rw [pps_all] at hL
            have hL2 := hL.base hb.size
            have hb3 := hb.trans (hb2.mono hb.size)
            clear hL hb2 hP hrv hqb
            have HTR : Hid (∀ j, j < m → ((tmG k4 xs ys ds m).getD j []).length = m) := fun j hj => by rw [tmG_getD k4 xs ys ds hj, tmR_len]
            obtain ⟨au, cu, rfl, hru⟩ := hL2.rdR (tmG_len k4 xs ys ds m) (fun j hj => by rw [tmG_getD k4 xs ys ds hj]; exact bd_u64 (tmR_bd k4 xs ys ds m j))
            go_wp2_with fail
            refine (cWeigh _ _ _ _ _ hru hn1 hn9 HTR.out).mono ?_
            rintro e w3 ⟨v3, rfl, ho3, hb4⟩
            rw [pps_out] at ho3
            have ho4 := own_baseV ho3 hb3.size
            have hL4 := hL2.below hb4
            have HAP : Hid (∀ i, (L.getD i (.slice none 0 0)).ownBlock = none ∨ (L.getD i (.slice none 0 0)).ownBlock ≠ v3.ownBlock) := fun i => by
              cases hbk : (L.getD i (.slice none 0 0)).ownBlock with
              | none => exact .inl rfl
              | some g =>
                right
                intro e
                have h1 := (hL2.blk i g hbk).2
                have h2 := (ho3.lt g e.symm).1
                omega
            have hb5 := hb3.trans (hb4.mono hb3.size)
            clear ho3 hL2 hb3 hb4 hru HTR
            go_wp2
            go_ret3
            exact ⟨.inr ⟨HG.out, v3, _, L, rfl, by rw [HT.out]; exact ho4, by rw [HT.out]; exact hL4, HAP.out⟩, hb5⟩
          · have hqb : ((q : Int) != (P : Int)) = true := by rw [bne_iff_ne]; omega
            have HG : Hid (Gme k4 m m q 1) := .inr ⟨⟨by omega, by omega⟩, .inr ⟨HY.out, .inr ⟨by omega, .inl ⟨by rw [hP]; omega, rfl⟩⟩⟩⟩
            clear hq hrv
            go_wp2
            go_ret3
            exact ⟨.inl ⟨1, by omega, HG.out, rfl⟩, hb⟩

theorem cGMul (t : Int) (a : Option Addr) (n c : Nat) (xs : List Int) (b : Option Addr) (m d : Nat) (ys : List Int) (e0 : Option Addr) (q f : Nat) (ds : List Int) (w : World) (h : Rd w a n c xs) (g : Rd w b m d ys) (k : Rd w e0 q f ds) :
    Calls Try.prog 24 #[.int .i64 t, .slice a n c, .slice b m d, .slice e0 q f] w fun e w' => Gtm t xs ys ds n m q w e w' :=
  (cGMulA t a n c xs b m d ys e0 q f ds w h g k).mono fun _ _ h => h.rd
end Go.Proofs.Ytgmelcdgnjcojaf

namespace Go.Proofs.Ytgmelcdgnjcojaf
open Go.RowKit Crm

set_option maxRecDepth 100000 in
set_option maxHeartbeats 2000000 in
theorem cKeepK (p : Nat) (G : Nat → Prop) (s : Kt) (a : Option Addr) (c : Nat) (l : List Int) (w : World) (h : Kst w p G s) (r : Rd w a s.n c l) (hl : ∀ x ∈ l, 0 ≤ x ∧ x ≤ 2147483646) (hG : ∀ x, a = some x → G x.block) (hlast : s.last ≤ 1000000) :
    Calls Try.prog 17 #[.pointer (some ⟨p, 0, none⟩), .slice a s.n c] w (Kke p G (kadd s l) w) := by
  have H0 : Hid (Stx 45 w p G s) := h
  obtain ⟨⟨b, V, hS, hF⟩, hGl⟩ := h
  obtain ⟨c0, c1, c2, c3⟩ := hS.four
  have hpl := hS.lt
  have hM := hS.map
  by_cases hc : 8 ≤ s.cnt
  · have HE : Hid (kadd s l = (0, 2, s)) := if_pos hc
    have hci : (8 : Int) ≤ (s.cnt : Int) := by omega
    go_enter Try.func17, Try.ntmps17
    go_wp2_with (at_len; refine wpList_lenK _ rfl _ 43 rfl 22 Try.underlying43 b s.cnt V rfl hM ?_)
    go_ret2
    rw [HE.out]
    exact ⟨rfl, H0.out.below (Below.refl _ _), Tch.refl _ _⟩
  · have HE : Hid (kadd s l = ((s.last : Int) + 1, 0, kput s l)) := if_neg hc
    have hci : ¬ ((8 : Int) ≤ (s.cnt : Int)) := by omega
    obtain ⟨L1, HL1⟩ : ∃ L1, Hid ((s.last : Int) + 1 = L1) := ⟨_, rfl⟩
    have hL0 : (s.last : Int) + 1 = L1 := HL1.out
    have hLb : 1 ≤ L1 ∧ L1 ≤ 1000001 := by omega
    have hfz := frozen_of_row w p 2 _ _ hS.row
    have hrow := heap_setCell_same w p 2 _ _ (.int .i64 L1) hS.row
    have hM2 : MapI (w.setCell ⟨p, 2, none⟩ (.int .i64 L1)) b s.cnt V := hM.block (heap_setCell_other w ⟨p, 2, none⟩ b _ hS.ne)
    have d2 : (w.setCell ⟨p, 2, none⟩ (.int .i64 L1)).cell? ⟨p, 2, none⟩ = some (.int .i64 L1) := by rw [cell_of_row _ p 2 _ _ (0, 0) hrow]; simp
    have d3 : (w.setCell ⟨p, 2, none⟩ (.int .i64 L1)).cell? ⟨p, 3, none⟩ = some (.map (some b)) := by rw [cell_of_row _ p 3 _ _ (0, 0) hrow]; simp
    have hpl2 : p < (w.setCell ⟨p, 2, none⟩ (.int .i64 L1)).heap.size := (Array.getElem?_eq_some_iff.1 hrow).1
    obtain ⟨w', hrun, hM3, htn⟩ := (show MapI (w.setCell ⟨p, 2, none⟩ (.int .i64 L1)).drew b s.cnt V from hM2).store (t := 43) Try.underlying43 (by have := hS.wf.c8; omega) (k := L1) ⟨by omega, by omega⟩ (.slice a s.n c)
    have hgr := htn.grown
    have hk : ∀ i, i < w.heap.size → i ≠ p → i ≠ b → w'.heap[i]? = w.heap[i]? := fun i hi h1 h2 => by
      rw [hgr.block i (by simpa using hi) (by simpa using h2)]; exact heap_setCell_other w ⟨p, 2, none⟩ i _ h1
    have hrw : w'.heap[p]? = some (.cells #[.int .i64 s.n, .int .i64 s.t, .int .i64 L1, .map (some b)] 45 (0, 0)) := by
      rw [hgr.block p hpl2 (by simpa using hS.ne.symm)]
      refine hrow.trans ?_
      simp
    have HP : Hid (Sto 45 w' p b (mset V ((s.last : Int) + 1) (some (.slice a s.n c))) (kput s l)) := by
      refine hS.put (by omega) hl r (by rw [hL0]; exact hM3) (by rw [hL0]; exact hrw) hk
    have hsz : w.heap.size ≤ w'.heap.size := Nat.le_trans (by simp) hgr.size
    have HX : Hid (Stx 45 w' p (Gnx G w w') (kput s l)) := by
      refine ⟨⟨b, _, HP.out, fun i hi => .inl ?_⟩, Gnx.lt hGl (by omega)⟩
      rcases hi with rfl | rfl | ⟨hh, a', m, c', e, rfl⟩
      · exact hF _ (.inl rfl)
      · exact hF _ (.inr (.inl rfl))
      · unfold mset at e
        split at e
        · simp only [Option.some.injEq, Value.slice.injEq] at e
          exact hG a' e.1
        · exact hF _ (.inr (.inr ⟨hh, a', m, c', e, rfl⟩))
    have HT : Hid (Tch w w' G) := ⟨hgr.os, hgr.tape, hgr.output, by omega, fun i hi hn => hk i hi (fun e => hn (hF _ (.inl e))) (fun e => hn (hF _ (.inr (.inl e))))⟩
    have hc2 : w'.cell? ⟨p, 2, none⟩ = some (.int .i64 L1) := by rw [cell_of_row _ p 2 _ _ (0, 0) hrw]; rfl
    have hpl3 : p < w'.heap.size := by omega
    clear hgr htn hk hrw hM3 hrow hF hGl hG hc
    go_enter Try.func17, Try.ntmps17
    go_wp2_with (at_len; refine wpList_lenK _ rfl _ 43 rfl 22 Try.underlying43 b s.cnt V rfl hM ?_)
    go_region
    all_goals
      go_wp2
      go_ret2
      rw [HE.out, hL0]
      exact ⟨rfl, HX.out, HT.out⟩

set_option maxRecDepth 100000 in
set_option maxHeartbeats 2000000 in
theorem cWith (p : Nat) (G : Nat → Prop) (s : Kt) (a : Option Addr) (c : Nat) (l : List Int) (x : Int) (ad : Option Addr) (cd : Nat) (ds : List Int) (w : World) (h : Kst w p G s) (r : Rd w a s.n c l) (hx0 : 0 ≤ x) (hx1 : x ≤ 18446744073709551615) (rd : Rd w ad s.t cd ds) :
    Calls Try.prog 16 #[.pointer (some ⟨p, 0, none⟩), .slice a s.n c, .int .u64 x, .slice ad s.t cd] w fun e w' => ∃ v, e = .returned v ∧ w'.ownsRow w.heap.size 23 1 v s.n ((mxl l (dl (x :: ds) s.n) 1 1 0 s.n).map (Value.int .u64)) ∧ Below w.heap.size w w' := by
  have hw := h.wf
  have ht4 := hw.t4
  have hn9 := hw.n9
  have hnt := hw.nt
  obtain ⟨⟨b, V, hS, _⟩, _⟩ := h
  obtain ⟨c0, c1, c2, c3⟩ := hS.four
  have hpl := hS.lt
  clear hS hw
  obtain ⟨n, HN⟩ : ∃ n, Hid (s.n = n) := ⟨_, rfl⟩
  obtain ⟨t, HT⟩ : ∃ t, Hid (s.t = t) := ⟨_, rfl⟩
  rw [HN.out] at c0 hn9 hnt r ⊢
  rw [HT.out] at c1 ht4 hnt rd ⊢
  go_enter Try.func16, Try.ntmps16
  go_wp2_with fail
  refine (cDealB x _ _ _ ds n _ rd hx0 hx1 ht4 (by omega) hn9).mono ?_
  rintro e w1 ⟨v1, rfl, ho1, hb1⟩
  obtain ⟨a1, k1, rfl, hr1, _⟩ := Rd.own ho1 (bd_u64 (dl_bd _ _))
  have r1 := r.below hb1
  clear ho1 c0 c1 c2 c3 hpl
  go_wp2_with fail
  refine (cGAdd _ _ _ _ _ _ _ _ _ r1 hr1).mono ?_
  rintro e w2 ⟨⟨hbad, _⟩ | ⟨_, v2, rfl, ho2⟩, hb2⟩
  · exact absurd ⟨⟨by omega, by omega⟩, rfl⟩ hbad
  have ho3 := own_baseV ho2 hb1.size
  have hb3 := hb1.trans (hb2.mono hb1.size)
  clear ho2 hb1 hb2 hr1 r1
  go_wp2
  go_ret
  exact ⟨v2, rfl, ho3, hb3⟩

/-- What both tells. -/
def Kbo (s : Kt) (g x : Int) (w : World) (e : Ending) (w' : World) : Prop :=
  (((s.f g = none ∨ s.f x = none) ∧ ∃ v u, e = .returned (.tuple #[v, u, .bool false])) ∨ ∃ l m ag cg ax cx, s.f g = some l ∧ s.f x = some m ∧ e = .returned (.tuple #[.slice ag s.n cg, .slice ax s.n cx, .bool true]) ∧ Rd w' ag s.n cg l ∧ Rd w' ax s.n cx m) ∧ Below w.heap.size w w'

set_option maxRecDepth 100000 in
set_option maxHeartbeats 2000000 in
theorem cBothK (p : Nat) (G : Nat → Prop) (s : Kt) (g x : Int) (w : World) (h : Kst w p G s) (hg : i64r g) (hx : i64r x) :
    Calls Try.prog 21 #[.pointer (some ⟨p, 0, none⟩), .int .i64 g, .int .i64 x] w (Kbo s g x w) := by
  obtain ⟨⟨b, V, hS, _⟩, _⟩ := h
  obtain ⟨c0, c1, c2, c3⟩ := hS.four
  have hpl := hS.lt
  have hM := hS.map
  rcases hS.val g with ⟨fg, vg⟩ | ⟨l, ag, cg, fg, vg, rg⟩
  · have HE : Hid (s.f g = none ∨ s.f x = none) := .inl fg
    have HV : Hid (V g = none) := vg
    clear hS fg vg
    go_enter Try.func21, Try.ntmps21
    go_wp2_with (at_lookup; refine wpList_lookK _ rfl _ _ 43 rfl 22 Try.underlying43 _ (zeroL _) b s.cnt V rfl hM g rfl hg ?_; rw [HV.out]; simp only [Option.getD_none, Option.isSome_none])
    go_ret3
    exact ⟨.inl ⟨HE.out, _, _, rfl⟩, Below.refl _ _⟩
  · have HV : Hid (V g = some (.slice ag s.n cg)) := vg
    rcases hS.val x with ⟨fx, vx⟩ | ⟨m, ax, cx, fx, vx, rx⟩
    · have HE : Hid (s.f g = none ∨ s.f x = none) := .inr fx
      have HX : Hid (V x = none) := vx
      clear hS fg vg fx vx
      go_enter Try.func21, Try.ntmps21
      go_wp2_with (at_lookup; first | (refine wpList_lookK _ rfl _ _ 43 rfl 22 Try.underlying43 _ (zeroL _) b s.cnt V rfl hM g rfl hg ?_; rw [HV.out]; simp only [Option.getD_some, Option.isSome_some]) | (refine wpList_lookK _ rfl _ _ 43 rfl 22 Try.underlying43 _ (zeroL _) b s.cnt V rfl hM x rfl hx ?_; rw [HX.out]; simp only [Option.getD_none, Option.isSome_none]))
      go_ret3
      exact ⟨.inl ⟨HE.out, _, _, rfl⟩, Below.refl _ _⟩
    · have HX : Hid (V x = some (.slice ax s.n cx)) := vx
      have HF : Hid (s.f g = some l ∧ s.f x = some m) := ⟨fg, fx⟩
      clear hS fg vg fx vx
      go_enter Try.func21, Try.ntmps21
      go_wp2_with (at_lookup; first | (refine wpList_lookK _ rfl _ _ 43 rfl 22 Try.underlying43 _ (zeroL _) b s.cnt V rfl hM g rfl hg ?_; rw [HV.out]; simp only [Option.getD_some, Option.isSome_some]) | (refine wpList_lookK _ rfl _ _ 43 rfl 22 Try.underlying43 _ (zeroL _) b s.cnt V rfl hM x rfl hx ?_; rw [HX.out]; simp only [Option.getD_some, Option.isSome_some]))
      go_ret3
      exact ⟨.inr ⟨l, m, ag, cg, ax, cx, HF.out.1, HF.out.2, rfl, rg, rx⟩, Below.refl _ _⟩
end Go.Proofs.Ytgmelcdgnjcojaf

/- poly.Norm, poly.Mul, poly.Eval. · shamir.Deal. · What shares of a dealing tell: plain facts. -/
import Derived.Test.YtgmelcdgnjcojagDoorToValC
import Derived.Test.YtgmelcdgnjcojagDoorToAddC
import Derived.Laws.AppendOwnNone
namespace Go.Proofs.YtgmelcdgnjcojagDoor
open Go.RowKit Crm

/-- What normal has made reads as the normal polynomial. -/
theorem Blk.nrm {w : World} {g n : Nat} {xs : List Int} (h : Blk w g (nz xs)) (hl : xs.length = n) (hn : n ≤ 1000000) : Rd w (some ⟨g, 0, none⟩) (tl (nz xs) n) n (Crm.nrm xs) := by
  have ht := tl_le (nz xs) n
  have := h.rd 0 (tl (nz xs) n) n ht (by unfold maxLen; omega) (by rw [nz_len]; omega) (nz_bd xs)
  rw [List.drop_zero] at this
  have e : Crm.nrm xs = (nz xs).take (tl (nz xs) n) := by unfold Crm.nrm trm; rw [nz_len, hl]
  rw [e]
  exact this

set_option maxRecDepth 100000 in
theorem cNormL (a : Option Addr) (n c : Nat) (w : World) (hm : n ≤ 9223372036854775807) (hn : 40 < n) :
    Calls Tryd.prog 19 #[.slice a n c] w fun e w' => e = .returned (.tuple #[.slice none 0 0, .int .i64 2]) ∧ w' = w := by
  go_enter Tryd.func19, Tryd.ntmps19
  go_wp2
  go_ret2
  exact ⟨rfl, rfl⟩

set_option maxRecDepth 100000 in
theorem cNormOK (a : Option Addr) (n c : Nat) (xs : List Int) (w : World) (h : Rd w a n c xs) (hn : n ≤ 40) :
    Calls Tryd.prog 19 #[.slice a n c] w fun e w' => e = .returned (.tuple #[.slice (some ⟨w.heap.size, 0, none⟩) (tl (nz xs) n) n, .int .i64 0]) ∧ Rd w' (some ⟨w.heap.size, 0, none⟩) (tl (nz xs) n) n (nrm xs) ∧ Below w.heap.size w w' := by
  go_enter Tryd.func19, Tryd.ntmps19
  go_wp2_with (go_at_call 60; refine (cNormal _ _ _ _ _ h (by omega)).mono ?_; rintro e w1 ⟨rfl, hb, hbel⟩)
  go_ret2
  exact ⟨rfl, hb.nrm h.len (by omega), hbel⟩

set_option maxRecDepth 100000 in
theorem cEvalL (a : Option Addr) (n c : Nat) (x : Int) (w : World) (hm : n ≤ 9223372036854775807) (hn : 40 < n) :
    Calls Tryd.prog 53 #[.slice a n c, .int .u64 x] w fun e w' => e = .returned (.tuple #[.int .u64 0, .int .i64 2]) ∧ w' = w := by
  go_enter Tryd.func53, Tryd.ntmps53
  go_wp2
  go_ret2
  exact ⟨rfl, rfl⟩

set_option maxRecDepth 100000 in
theorem cEvalOK (a : Option Addr) (n c : Nat) (xs : List Int) (x : Int) (w : World) (h : Rd w a n c xs) (hn : n ≤ 40) (hx0 : 0 ≤ x) (hx1 : x ≤ 18446744073709551615) :
    Calls Tryd.prog 53 #[.slice a n c, .int .u64 x] w fun e w' => e = .returned (.tuple #[.int .u64 (nm (ev xs x)), .int .i64 0]) ∧ Below w.heap.size w w' := by
  go_enter Tryd.func53, Tryd.ntmps53
  go_wp2_with (go_at_call 84; refine (cValue _ _ _ _ _ _ h hx0 hx1).mono ?_; rintro e w1 ⟨rfl, hbel⟩)
  go_ret2
  exact ⟨rfl, hbel⟩

end Go.Proofs.YtgmelcdgnjcojagDoor

namespace Go.Proofs.YtgmelcdgnjcojagDoor
open Go.RowKit Crm

/-- A list that is filled from its beginning on. -/
def fil (f : Nat → Int) (n k : Nat) : List Int := (List.range n).map fun i => if i < k then f i else 0
theorem fil_len (f : Nat → Int) (n k : Nat) : (fil f n k).length = n := by simp [fil]
theorem fil_zero (f : Nat → Int) (n : Nat) : List.replicate n 0 = fil f n 0 := by
  refine list_ext (by simp [fil]) fun t ht => ?_
  have : t < n := by simpa using ht
  simp [fil, this]
theorem fil_set {f : Nat → Int} {n k : Nat} {v : Int} (hv : v = f k) : (fil f n k).set k v = fil f n (k + 1) := by
  refine list_ext (by simp [fil]) fun t ht => ?_
  have htn : t < n := by simpa [fil] using ht
  rw [getD_set, fil_len]
  by_cases e : k = t
  · subst e
    rw [if_pos ⟨rfl, htn⟩, hv]
    simp [fil, htn]
  · rw [if_neg (fun h => e h.1)]
    have : (t < k + 1) = (t < k) := by apply propext; omega
    simp [fil, htn, this]
theorem fil_full (f : Nat → Int) (n : Nat) : fil f n n = (List.range n).map f := by
  refine list_ext (by simp [fil]) fun t ht => ?_
  have htn : t < n := by simpa [fil] using ht
  simp [fil, htn]
theorem fil_bd {f : Nat → Int} (hf : ∀ i, 0 ≤ f i ∧ f i ≤ 2147483646) (n k : Nat) : ∀ x ∈ fil f n k, 0 ≤ x ∧ x ≤ 2147483646 := by
  intro x hx
  obtain ⟨i, _, rfl⟩ := List.mem_map.1 hx
  split
  · exact hf i
  · omega

/-- What is dealt. -/
def dlf (C : List Int) (i : Nat) : Int := nm (ev C ((i : Int) + 1))
theorem dlf_bd (C : List Int) (i : Nat) : 0 ≤ dlf C i ∧ dlf C i ≤ 2147483646 := nm_bd _
def dl (C : List Int) (n : Nat) : List Int := (List.range n).map (dlf C)
theorem dl_len (C : List Int) (n : Nat) : (dl C n).length = n := by simp [dl]
theorem dl_bd (C : List Int) (n : Nat) : ∀ x ∈ dl C n, 0 ≤ x ∧ x ≤ 2147483646 := by
  rw [dl, ← fil_full]; exact fil_bd (dlf_bd C) n n
theorem dl_snoc (C : List Int) (n : Nat) : dl C n ++ [dlf C n] = dl C (n + 1) := by simp [dl, List.range_succ]
theorem dl_getD (C : List Int) {n i : Nat} (h : i < n) : (dl C n).getD i 0 = dlf C i := by simp [dl, h]

/-- One number, and a slice behind it; where it lies. -/
theorem wpList_appRB {P : Program} {T : TypeId} (hT : P.underlying T = some (.slice 34)) (info : (P.info? 34).map (fun i => (i.zero, i.size, i.bytes)) = some (some (.int .u64 0), 1, 8))
    (w : World) {ops : Array Oper} {rest : List Oper} {o : Oper} {a : Act} {Q : Exit → Act → World → Prop} (hgd : o.guard = none) (s x : Operand)
    (ho : o.op = .call { callee := .builtin .append, args := #[s, x], argTypes := #[T, T] }) (y : Int) (hy0 : 0 ≤ y) (hy1 : y ≤ 18446744073709551615)
    (a0 : Option Addr) (m c : Nat) (xs : List Int) (hR : Rd w a0 m c xs) (hs : a.eval s = .slice (some ⟨w.heap.size, 0, none⟩) 1 1) (hx : a.eval x = .slice a0 m c) (hm : m ≤ 1000)
    (h : ∀ a' c' w', Rd w' a' (m + 1) c' (y :: xs) → (∀ x, a' = some x → w.heap.size ≤ x.block) → Below w.heap.size w w' → wpList P ops Q rest (a.put o.dst (.slice a' (m + 1) c')) w') :
    wpList P ops Q (o :: rest) a (w.alloc (.cells #[.int .u64 y] 34)) := by
  obtain ⟨i0, hi, hz0, hz1, hz2⟩ := info_parts info
  have hb : Below w.heap.size w (w.alloc (.cells #[.int .u64 y] 34)) := (Below.refl _ _).alloc (Nat.le_refl _) _
  have hown : (w.alloc (.cells #[.int .u64 y] 34)).ownsRow w.heap.size 34 1 (.slice (some ⟨w.heap.size, 0, none⟩) 1 1) 1 [.int .u64 y] :=
    ⟨rfl, Or.inr ⟨_, 1, #[.int .u64 y], rfl, Nat.le_refl _, heap_alloc_new w _, Nat.le_refl _, by unfold maxLen; omega, rfl, rfl⟩⟩
  have hbd : ∀ z ∈ y :: xs, 0 ≤ z ∧ z ≤ 18446744073709551615 := by
    intro z hz
    rcases List.mem_cons.1 hz with rfl | hz
    · exact ⟨hy0, hy1⟩
    · exact hR.bd z hz
  have hl := hR.len
  cases a0 with
  | none =>
    have hc := hR.nil rfl
    have hcap := hR.cap
    obtain rfl : m = 0 := by omega
    subst hc
    obtain rfl : xs = [] := List.eq_nil_of_length_eq_zero hl
    refine wpList_append_own_none hgd s x T ho w.heap.size 34 i0 1 hT hi _ 1 _ hs hown hx ?_
    obtain ⟨a', c', e, hr, hx⟩ := Rd.own (xs := [y]) hown hbd
    rw [e]
    exact h a' c' _ hr hx hb
  | some ad =>
    refine wpList_append_own _ hgd s x T ho w.heap.size 34 i0 (.int .u64 0) 1 8 hT hi hz0 hz1 hz2 rfl (by decide) _ 1 _ hs hown ad m c (xs.map (Value.int .u64)) hx (by rw [List.length_map, hl, Nat.mul_one]) ?_ ?_ (by unfold maxLen; omega) (by omega) (by simp) ?_
    · intro j u hj
      rw [List.getElem?_map] at hj
      have hjl : j < xs.length := by
        rcases Nat.lt_or_ge j xs.length with h' | h'
        · exact h'
        · rw [List.getElem?_eq_none h'] at hj; cases hj
      rw [getD_some hjl] at hj
      simp only [Option.map_some, Option.some.injEq] at hj
      rw [← hj]
      exact (hR.below hb).cell ad rfl j (by omega)
    · intro u hu
      obtain ⟨z, _, rfl⟩ := List.mem_map.1 hu
      rfl
    · intro v' w' hown' hgrow _
      rw [Nat.add_comm] at hown'
      obtain ⟨a', c', rfl, hr, hx⟩ := Rd.own (xs := y :: xs) hown' hbd
      refine h a' c' w' hr hx (hb.grown hgrow (by simp) (fun k hk => ?_))
      simp [Value.ownBlock] at hk
      omega
theorem wpList_appR {P : Program} {T : TypeId} (hT : P.underlying T = some (.slice 34)) (info : (P.info? 34).map (fun i => (i.zero, i.size, i.bytes)) = some (some (.int .u64 0), 1, 8))
    (w : World) {ops : Array Oper} {rest : List Oper} {o : Oper} {a : Act} {Q : Exit → Act → World → Prop} (hgd : o.guard = none) (s x : Operand)
    (ho : o.op = .call { callee := .builtin .append, args := #[s, x], argTypes := #[T, T] }) (y : Int) (hy0 : 0 ≤ y) (hy1 : y ≤ 18446744073709551615)
    (a0 : Option Addr) (m c : Nat) (xs : List Int) (hR : Rd w a0 m c xs) (hs : a.eval s = .slice (some ⟨w.heap.size, 0, none⟩) 1 1) (hx : a.eval x = .slice a0 m c) (hm : m ≤ 1000)
    (h : ∀ a' c' w', Rd w' a' (m + 1) c' (y :: xs) → Below w.heap.size w w' → wpList P ops Q rest (a.put o.dst (.slice a' (m + 1) c')) w') :
    wpList P ops Q (o :: rest) a (w.alloc (.cells #[.int .u64 y] 34)) :=
  wpList_appRB hT info w hgd s x ho y hy0 hy1 a0 m c xs hR hs hx hm fun a' c' w' h1 _ h2 => h a' c' w' h1 h2

set_option maxRecDepth 100000 in
theorem cDealE (s : Int) (a : Option Addr) (m c : Nat) (n : Int) (w : World) (hm : m ≤ 9223372036854775807) (h : 4 < m ∨ n ≤ m ∨ 9 < n) :
    Calls Tryd.prog 13 #[.int .u64 s, .slice a m c, .int .i64 n] w fun e w' => e = .returned (.tuple #[.slice none 0 0, .int .i64 1]) ∧ w' = w := by
  by_cases h1 : 4 < m
  · clear h
    go_enter Tryd.func13, Tryd.ntmps13
    go_wp2
    go_ret2
    exact ⟨rfl, rfl⟩
  · by_cases h2 : n ≤ m
    · clear h
      go_enter Tryd.func13, Tryd.ntmps13
      go_wp2
      go_ret2
      exact ⟨rfl, rfl⟩
    · have h3 : 9 < n := by omega
      clear h
      go_enter Tryd.func13, Tryd.ntmps13
      go_wp2
      go_ret2
      exact ⟨rfl, rfl⟩

set_option maxRecDepth 100000 in
set_option maxHeartbeats 1000000 in
theorem cDealOK (s : Int) (a : Option Addr) (m c : Nat) (xs : List Int) (n : Nat) (w : World) (h : Rd w a m c xs) (hs0 : 0 ≤ s) (hs1 : s ≤ 18446744073709551615) (hm : m ≤ 4) (hn : m < n) (hn9 : n ≤ 9) :
    Calls Tryd.prog 13 #[.int .u64 s, .slice a m c, .int .i64 n] w fun e w' => ∃ g, e = .returned (.tuple #[.slice (some ⟨g, 0, none⟩) n n, .int .i64 0]) ∧ Rd w' (some ⟨g, 0, none⟩) n n (dl (s :: xs) n) ∧ w.heap.size ≤ g ∧ Below w.heap.size w w' := by
  obtain ⟨i0, hi, hz0, hz1, hz2⟩ := info_parts info34
  have hlen := h.len
  go_enter Tryd.func13, Tryd.ntmps13
  go_wp2_with (first | (at_builtin; refine wpList_appR Tryd.underlying22 info34 _ rfl _ _ rfl s hs0 hs1 a m c xs h rfl rfl (by omega) ?_; intro a1 c1 w1 hr1 hb1) | (at_make; refine wpList_make_full _ rfl _ _ 22 rfl w1.heap.size 34 i0 (.int .u64 0) 1 Tryd.underlying22 hi hz0 hz1 .i64 .i64 _ _ n rfl rfl (by omega) (by omega) (by rw [hz2]; omega) (by unfold maxLen; omega) (Nat.le_refl _) ?_; intro w2 hown hgrow))
  have hs1 := hb1.size
  have hB2 : Blk w2 w1.heap.size (fil (dlf (s :: xs)) n 0) := by rw [← fil_zero]; exact Blk.made hown
  have hb2 : Below w1.heap.size w1 w2 := (Below.refl _ _).grown hgrow (Nat.le_refl _) (by simp)
  have hb12 : Below w.heap.size w w2 := hb1.trans (hb2.mono hs1)
  clear hown hgrow
  go_loopw [32] (fun i wr => ∃ k : Nat, k ≤ n ∧ i = .int .i64 k ∧ Blk wr w1.heap.size (fil (dlf (s :: xs)) n k) ∧ Below w1.heap.size w1 wr ∧ Below w.heap.size w wr) (fun i _ => n - (intOf i).toNat)
  case atStart => exact ⟨0, Nat.zero_le _, rfl, hB2, hb2, hb12⟩
  case round =>
    clear hB2 hb2 hb12
    obtain ⟨k, hk, rfl, hblk, hbe1, hbel⟩ := hrel
    by_cases hlt : k < n
    · have hr := hr1.below hbe1
      have HF : Hid (nm (ev (s :: xs) ((k : Int) + 1)) = dlf (s :: xs) k) := rfl
      go_wp2_with fail
      refine (cEvalOK _ _ _ _ _ _ hr (by omega) (by omega) (by omega)).mono ?_
      rintro e w3 ⟨rfl, hb3⟩
      rw [HF.out]
      have hblk3 := hblk.below hb3 hblk.lt
      have hcell := hblk3.cell (i := k) (by rw [fil_len]; exact hlt)
      have hfz := hblk3.frozen k
      have hlt3 := hblk3.lt
      have hblk4 := hblk3.set k (dlf (s :: xs) k)
      rw [fil_set rfl] at hblk4
      have hbe3 := hbe1.trans (hb3.mono hbe1.size)
      have hbel3 := hbel.trans (hb3.mono hbel.size)
      have Hb4 : Hid (Below w1.heap.size w1 (w3.setCell ⟨w1.heap.size, k, none⟩ (.int .u64 (dlf (s :: xs) k)))) := hbe3.setCell (Nat.le_refl _) _
      have Hb5 : Hid (Below w.heap.size w (w3.setCell ⟨w1.heap.size, k, none⟩ (.int .u64 (dlf (s :: xs) k)))) := hbel3.setCell hs1 _
      clear hbe1 hbel hb3 hblk hblk3 hbe3 hbel3 hr
      go_wp2
      go_roundw
      case rel => exact ⟨k + 1, by omega, by go_num, hblk4, Hb4.out, Hb5.out⟩
      case measure => simp [intOf]; omega
    · have hkn : k = n := by omega
      subst hkn
      have hr : Rd wr (some ⟨w1.heap.size, 0, none⟩) k k (dl (s :: xs) k) := by
        rw [fil_full] at hblk
        exact Blk.whole hblk k (dl_len _ _).symm (by unfold maxLen; omega) (bd_u64 (dl_bd _ _))
      go_wp2
      go_ret2
      exact ⟨_, rfl, hr, hs1, hbel⟩
end Go.Proofs.YtgmelcdgnjcojagDoor

namespace Go.Proofs.YtgmelcdgnjcojagDoor
open Crm

/-- Enough shares of a dealing open it. -/
theorem any_open {C : List Int} {l : List (Int × Int)} {n k : Nat} (hd : dis (fa l) n) (hk : k ≤ 4) (hkn : k < n) (hC : C.length ≤ k + 1) (hy : Hs l n C) {x r : Int} (h : Opn l n k x r) : x = nm (ev C 0) ∧ r = 0 := by
  have h1 : Opn l n k (nm (ev C 0)) 0 := Or.inr ⟨Or.inr (Or.inr (Or.inr ⟨⟨by omega, by omega⟩, hd, by omega, rfl⟩)), Or.inl ⟨C, by omega, hy, rfl, rfl⟩⟩
  exact h.one h1

/-- One wrong share among more than are needed is told. -/
theorem wrong_told {C : List Int} {l : List (Int × Int)} {m k q : Nat} {b : Int} (hk : k ≤ 4) (hC : C.length ≤ k + 1) (hm : k + 2 ≤ m) (hm9 : m ≤ 9) (hq : q < m) (hb : nm b ≠ 0)
    (hl : ∀ j, j < m → l.getD j (0, 0) = ((j : Int) + 1, if j = q then nm (dlf C j + b) else dlf C j)) {x r : Int} (h : Opn l m k x r) : r = 6 := by
  have hfa : ∀ j, j < m → fa l j = (j : Int) + 1 := fun j hj => by unfold fa; rw [hl j hj]
  have hd : dis (fa l) m := fun i hi => by
    rw [hfa i hi]
    exact ⟨⟨by omega, by omega⟩, fun j hj => by rw [hfa j (by omega)]; omega⟩
  have hS : She l m k 0 := Or.inr (Or.inr (Or.inr ⟨⟨by omega, by omega⟩, hd, by omega, rfl⟩))
  rcases h with ⟨h1, h2, _⟩ | ⟨_, ⟨S, h2, h3, _, _⟩ | ⟨_, _, h4⟩⟩
  · exact absurd (h1.one hS) h2
  · exfalso
    have hne : ∀ j, j < m - 1 → (if j < q then j else j + 1) < m ∧ (if j < q then j else j + 1) ≠ q := fun j hj => by split <;> omega
    have hw : ∀ j, j < m - 1 → ((List.range (m - 1)).map fun j => l.getD (if j < q then j else j + 1) (0, 0)).getD j (0, 0) = l.getD (if j < q then j else j + 1) (0, 0) := fun j hj => by simp [hj]
    have h5 := hs_one (l := (List.range (m - 1)).map fun j => l.getD (if j < q then j else j + 1) (0, 0)) (n := m - 1) (S := S) (R := C) (fun j hj => ?_) (fun j hj => ?_) (fun j hj => ?_) (by omega) (by omega)
    · have h6 := h3 q hq
      rw [hl q hq, if_pos rfl] at h6
      simp only at h6
      rw [ev_one h5, nm_nm] at h6
      have h7 : nm (dlf C q + b - ev C ((q : Int) + 1)) = 0 := by
        rw [nm_eq_iff] at h6
        unfold nm at h6 ⊢
        omega
      apply hb
      have h8 : nm (dlf C q + b) = nm (ev C ((q : Int) + 1) + b) := by unfold dlf; rw [nm_addl]
      rw [← nm_subl, h8, nm_subl] at h7
      rw [← h7]
      congr 1
      omega
    · rw [hw j hj, hl _ (hne j hj).1]
      refine ⟨⟨by simp only; split <;> omega, by simp only; split <;> omega⟩, fun p hp => ?_⟩
      rw [hw p (by omega), hl _ (hne p (by omega)).1]
      simp only
      split <;> split <;> omega
    · rw [hw j hj]
      exact h3 _ (hne j hj).1
    · rw [hw j hj, hl _ (hne j hj).1, if_neg (hne j hj).2]
      unfold dlf
      simp only
      rw [nm_nm]
  · exact h4
end Go.Proofs.YtgmelcdgnjcojagDoor

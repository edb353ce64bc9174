/- poly.Norm, poly.Mul, poly.Eval. · shamir.Deal. · poly.divide, poly.Div. · poly.Div. -/
import Derived.Test.YtljlioglpaogdaeToRestC
import Derived.Test.YtljlioglpaogdaeToTwoC
import Derived.Test.YtljlioglpaogdaeToEqIC
import Derived.Test.YtljlioglpaogdaeToRows2
import Derived.Laws.AppendOwnNone
import Derived.Test.YtljlioglpaogdaeToGaussM
import Derived.Deep.RegionWith
namespace Go.Proofs.Ytljlioglpaogdae
set_option linter.unusedVariables false
set_option maxRecDepth 100000
set_option maxHeartbeats 8000000
section
open Crm Go.RowKit
/-- What normal has made reads as the normal polynomial. -/
theorem Blk.nrm {w : World} {g n : Nat} {xs : List Int} (h : Blk w g (nz xs)) (hl : xs.length = n) (hn : n ≤ 1000000) : Rd w (some ⟨g, 0, none⟩) (tl (nz xs) n) n (Crm.nrm xs) := by
  have ht := tl_le (nz xs) n
  have := h.rd 0 (tl (nz xs) n) n ht (by unfold maxLen; omega) (by rw [nz_len]; omega) (nz_bd xs)
  rw [List.drop_zero] at this
  have e : Crm.nrm xs = (nz xs).take (tl (nz xs) n) := by unfold Crm.nrm trm; rw [nz_len, hl]
  rw [e]
  exact this

theorem cEvalOK (a : Option Addr) (n c : Nat) (xs : List Int) (x : Int) (w : World) (h : Rd w a n c xs) (hn : n ≤ 40) (hx0 : 0 ≤ x) (hx1 : x ≤ 18446744073709551615) :
    Calls Try.prog 40 #[.slice a n c, .int .u64 x] w fun e w' => e = .returned (.tuple #[.int .u64 (nm (ev xs x)), .int .i64 0]) ∧ Below w.heap.size w w' := by
  go_enter Try.func40, Try.ntmps40
  go_wp2_with (go_at_call 64; refine (cValue _ _ _ _ _ _ h hx0 hx1).mono ?_; rintro e w1 ⟨rfl, hbel⟩)
  go_ret2
  exact ⟨rfl, hbel⟩
/-- A list that is filled from its beginning on. -/
def fil (f : Nat → Int) (n k : Nat) : List Int := (List.range n).map fun i => if i < k then f i else 0
theorem fil_len (f : Nat → Int) (n k : Nat) : (fil f n k).length = n := by simp [fil]
theorem fil_zero (f : Nat → Int) (n : Nat) : List.replicate n 0 = fil f n 0 := by
  refine list_ext (by simp [fil]) fun t ht => ?_
  have : t < n := by simpa using ht
  simp [fil, this]
theorem fil_set {f : Nat → Int} {n k : Nat} {v : Int} (hv : v = f k) : (fil f n k).set k v = fil f n (k + 1) := by
  refine list_ext (by simp [fil]) fun t ht => ?_
  have htn : t < n := by simpa [fil] using ht
  rw [getD_set, fil_len]
  by_cases e : k = t
  · subst e
    rw [if_pos ⟨rfl, htn⟩, hv]
    simp [fil, htn]
  · rw [if_neg (fun h => e h.1)]
    have : (t < k + 1) = (t < k) := by apply propext; omega
    simp [fil, htn, this]
theorem fil_full (f : Nat → Int) (n : Nat) : fil f n n = (List.range n).map f := by
  refine list_ext (by simp [fil]) fun t ht => ?_
  have htn : t < n := by simpa [fil] using ht
  simp [fil, htn]
theorem fil_bd {f : Nat → Int} (hf : ∀ i, 0 ≤ f i ∧ f i ≤ 2147483646) (n k : Nat) : ∀ x ∈ fil f n k, 0 ≤ x ∧ x ≤ 2147483646 := by
  intro x hx
  obtain ⟨i, _, rfl⟩ := List.mem_map.1 hx
  split
  · exact hf i
  · omega

/-- What is dealt. -/
def dlf (C : List Int) (i : Nat) : Int := nm (ev C ((i : Int) + 1))
theorem dlf_bd (C : List Int) (i : Nat) : 0 ≤ dlf C i ∧ dlf C i ≤ 2147483646 := nm_bd _
def dl (C : List Int) (n : Nat) : List Int := (List.range n).map (dlf C)
theorem dl_len (C : List Int) (n : Nat) : (dl C n).length = n := by simp [dl]
theorem dl_bd (C : List Int) (n : Nat) : ∀ x ∈ dl C n, 0 ≤ x ∧ x ≤ 2147483646 := by
  rw [dl, ← fil_full]; exact fil_bd (dlf_bd C) n n
theorem dl_getD (C : List Int) {n i : Nat} (h : i < n) : (dl C n).getD i 0 = dlf C i := by simp [dl, h]

/-- One number, and a slice behind it; where it lies. -/
theorem wpList_appRB {P : Program} {T : TypeId} (hT : P.underlying T = some (.slice 22)) (info : (P.info? 22).map (fun i => (i.zero, i.size, i.bytes)) = some (some (.int .u64 0), 1, 8))
    (w : World) {ops : Array Oper} {rest : List Oper} {o : Oper} {a : Act} {Q : Exit → Act → World → Prop} (hgd : o.guard = none) (s x : Operand)
    (ho : o.op = .call { callee := .builtin .append, args := #[s, x], argTypes := #[T, T] }) (y : Int) (hy0 : 0 ≤ y) (hy1 : y ≤ 18446744073709551615)
    (a0 : Option Addr) (m c : Nat) (xs : List Int) (hR : Rd w a0 m c xs) (hs : a.eval s = .slice (some ⟨w.heap.size, 0, none⟩) 1 1) (hx : a.eval x = .slice a0 m c) (hm : m ≤ 1000)
    (h : ∀ a' c' w', Rd w' a' (m + 1) c' (y :: xs) → (∀ x, a' = some x → w.heap.size ≤ x.block) → Below w.heap.size w w' → wpList P ops Q rest (a.put o.dst (.slice a' (m + 1) c')) w') :
    wpList P ops Q (o :: rest) a (w.alloc (.cells #[.int .u64 y] 22)) := by
  obtain ⟨i0, hi, hz0, hz1, hz2⟩ := info_parts info
  have hb : Below w.heap.size w (w.alloc (.cells #[.int .u64 y] 22)) := (Below.refl _ _).alloc (Nat.le_refl _) _
  have hown : (w.alloc (.cells #[.int .u64 y] 22)).ownsRow w.heap.size 22 1 (.slice (some ⟨w.heap.size, 0, none⟩) 1 1) 1 [.int .u64 y] :=
    ⟨rfl, Or.inr ⟨_, 1, #[.int .u64 y], rfl, Nat.le_refl _, heap_alloc_new w _, Nat.le_refl _, by unfold maxLen; omega, rfl, rfl⟩⟩
  have hbd : ∀ z ∈ y :: xs, 0 ≤ z ∧ z ≤ 18446744073709551615 := by
    intro z hz
    rcases List.mem_cons.1 hz with rfl | hz
    · exact ⟨hy0, hy1⟩
    · exact hR.bd z hz
  have hl := hR.len
  cases a0 with
  | none =>
    have hc := hR.nil rfl
    have hcap := hR.cap
    obtain rfl : m = 0 := by omega
    subst hc
    obtain rfl : xs = [] := List.eq_nil_of_length_eq_zero hl
    refine wpList_append_own_none hgd s x T ho w.heap.size 22 i0 1 hT hi _ 1 _ hs hown hx ?_
    obtain ⟨a', c', e, hr, hx⟩ := Rd.own (xs := [y]) hown hbd
    rw [e]
    exact h a' c' _ hr hx hb
  | some ad =>
    refine wpList_append_own _ hgd s x T ho w.heap.size 22 i0 (.int .u64 0) 1 8 hT hi hz0 hz1 hz2 rfl (by decide) _ 1 _ hs hown ad m c (xs.map (Value.int .u64)) hx (by rw [List.length_map, hl, Nat.mul_one]) ?_ ?_ (by unfold maxLen; omega) (by omega) (by simp) ?_
    · intro j u hj
      rw [List.getElem?_map] at hj
      have hjl : j < xs.length := by
        rcases Nat.lt_or_ge j xs.length with h' | h'
        · exact h'
        · rw [List.getElem?_eq_none h'] at hj; cases hj
      rw [getD_some hjl] at hj
      simp only [Option.map_some, Option.some.injEq] at hj
      rw [← hj]
      exact (hR.below hb).cell ad rfl j (by omega)
    · intro u hu
      obtain ⟨z, _, rfl⟩ := List.mem_map.1 hu
      rfl
    · intro v' w' hown' hgrow _
      rw [Nat.add_comm] at hown'
      obtain ⟨a', c', rfl, hr, hx⟩ := Rd.own (xs := y :: xs) hown' hbd
      refine h a' c' w' hr hx (hb.grown hgrow (by simp) (fun k hk => ?_))
      simp [Value.ownBlock] at hk
      omega
theorem wpList_appR {P : Program} {T : TypeId} (hT : P.underlying T = some (.slice 22)) (info : (P.info? 22).map (fun i => (i.zero, i.size, i.bytes)) = some (some (.int .u64 0), 1, 8))
    (w : World) {ops : Array Oper} {rest : List Oper} {o : Oper} {a : Act} {Q : Exit → Act → World → Prop} (hgd : o.guard = none) (s x : Operand)
    (ho : o.op = .call { callee := .builtin .append, args := #[s, x], argTypes := #[T, T] }) (y : Int) (hy0 : 0 ≤ y) (hy1 : y ≤ 18446744073709551615)
    (a0 : Option Addr) (m c : Nat) (xs : List Int) (hR : Rd w a0 m c xs) (hs : a.eval s = .slice (some ⟨w.heap.size, 0, none⟩) 1 1) (hx : a.eval x = .slice a0 m c) (hm : m ≤ 1000)
    (h : ∀ a' c' w', Rd w' a' (m + 1) c' (y :: xs) → Below w.heap.size w w' → wpList P ops Q rest (a.put o.dst (.slice a' (m + 1) c')) w') :
    wpList P ops Q (o :: rest) a (w.alloc (.cells #[.int .u64 y] 22)) :=
  wpList_appRB hT info w hgd s x ho y hy0 hy1 a0 m c xs hR hs hx hm fun a' c' w' h1 _ h2 => h a' c' w' h1 h2

theorem cDealOK (s : Int) (a : Option Addr) (m c : Nat) (xs : List Int) (n : Nat) (w : World) (h : Rd w a m c xs) (hs0 : 0 ≤ s) (hs1 : s ≤ 18446744073709551615) (hm : m ≤ 4) (hn : m < n) (hn9 : n ≤ 9) :
    Calls Try.prog 12 #[.int .u64 s, .slice a m c, .int .i64 n] w fun e w' => ∃ g, e = .returned (.tuple #[.slice (some ⟨g, 0, none⟩) n n, .int .i64 0]) ∧ Rd w' (some ⟨g, 0, none⟩) n n (dl (s :: xs) n) ∧ w.heap.size ≤ g ∧ Below w.heap.size w w' := by
  obtain ⟨i0, hi, hz0, hz1, hz2⟩ := info_parts info22
  have hlen := h.len
  go_enter Try.func12, Try.ntmps12
  go_wp2_with (first | (at_builtin; refine wpList_appR Try.underlying23 info22 _ rfl _ _ rfl s hs0 hs1 a m c xs h rfl rfl (by omega) ?_; intro a1 c1 w1 hr1 hb1) | (at_make; refine wpList_make_full _ rfl _ _ 23 rfl w1.heap.size 22 i0 (.int .u64 0) 1 Try.underlying23 hi hz0 hz1 .i64 .i64 _ _ n rfl rfl (by omega) (by omega) (by rw [hz2]; omega) (by unfold maxLen; omega) (Nat.le_refl _) ?_; intro w2 hown hgrow))
  have hs1 := hb1.size
  have hB2 : Blk w2 w1.heap.size (fil (dlf (s :: xs)) n 0) := by rw [← fil_zero]; exact Blk.made hown
  have hb2 : Below w1.heap.size w1 w2 := (Below.refl _ _).grown hgrow (Nat.le_refl _) (by simp)
  have hb12 : Below w.heap.size w w2 := hb1.trans (hb2.mono hs1)
  clear hown hgrow
  go_loopw [32] (fun i wr => ∃ k : Nat, k ≤ n ∧ i = .int .i64 k ∧ Blk wr w1.heap.size (fil (dlf (s :: xs)) n k) ∧ Below w1.heap.size w1 wr ∧ Below w.heap.size w wr) (fun i _ => n - (intOf i).toNat)
  case atStart => exact ⟨0, Nat.zero_le _, rfl, hB2, hb2, hb12⟩
  case round =>
    clear hB2 hb2 hb12
    obtain ⟨k, hk, rfl, hblk, hbe1, hbel⟩ := hrel
    by_cases hlt : k < n
    · have hr := hr1.below hbe1
      have HF : Hid (nm (ev (s :: xs) ((k : Int) + 1)) = dlf (s :: xs) k) := rfl
      go_wp2_with fail
      refine (cEvalOK _ _ _ _ _ _ hr (by omega) (by omega) (by omega)).mono ?_
      rintro e w3 ⟨rfl, hb3⟩
      rw [HF.out]
      have hblk3 := hblk.below hb3 hblk.lt
      have hcell := hblk3.cell (i := k) (by rw [fil_len]; exact hlt)
      have hfz := hblk3.frozen k
      have hlt3 := hblk3.lt
      have hblk4 := hblk3.set k (dlf (s :: xs) k)
      rw [fil_set rfl] at hblk4
      have hbe3 := hbe1.trans (hb3.mono hbe1.size)
      have hbel3 := hbel.trans (hb3.mono hbel.size)
      have Hb4 : Hid (Below w1.heap.size w1 (w3.setCell ⟨w1.heap.size, k, none⟩ (.int .u64 (dlf (s :: xs) k)))) := hbe3.setCell (Nat.le_refl _) _
      have Hb5 : Hid (Below w.heap.size w (w3.setCell ⟨w1.heap.size, k, none⟩ (.int .u64 (dlf (s :: xs) k)))) := hbel3.setCell hs1 _
      clear hbe1 hbel hb3 hblk hblk3 hbe3 hbel3 hr
      go_wp2
      go_roundw
      case rel => exact ⟨k + 1, by omega, by go_num, hblk4, Hb4.out, Hb5.out⟩
      case measure => simp [intOf]; omega
    · have hkn : k = n := by omega
      subst hkn
      have hr : Rd wr (some ⟨w1.heap.size, 0, none⟩) k k (dl (s :: xs) k) := by
        rw [fil_full] at hblk
        exact Blk.whole hblk k (dl_len _ _).symm (by unfold maxLen; omega) (bd_u64 (dl_bd _ _))
      go_wp2
      go_ret2
      exact ⟨_, rfl, hr, hs1, hbel⟩
theorem tl_take (A : List Int) : ∀ n m, n ≤ m → tl (A.take m) n = tl A n
  | 0, _, _ => rfl
  | n + 1, m, h => by rw [tl, tl, take_getD, if_pos (show n < m by omega), tl_take A n m (by omega)]

theorem cDivide (g n c : Nat) (L : List Int) (b : Option Addr) (m d : Nat) (D : List Int) (w : World) (hL : Blk w g L) (hLb : ∀ x ∈ L, 0 ≤ x ∧ x ≤ 2147483646) (hn : n ≤ L.length) (hc : n ≤ c) (hcc : c ≤ 1000) (hD : Rd w b m d D)
    (hne : ∀ x, b = some x → x.block ≠ g) (hm0 : 0 < m) (hm : m ≤ 1000) (hd : nm (D.getD (m - 1) 0) ≠ 0) (hlast : 0 < n → L.getD (n - 1) 0 ≠ 0) :
    Calls Try.prog 101 #[.slice (some ⟨g, 0, none⟩) n c, .slice b m d] w fun e w' => ∃ Q A, e = .returned (.tuple #[.slice (some ⟨w.heap.size, 0, none⟩) (n - (m - 1)) (n - (m - 1)), .slice (some ⟨g, 0, none⟩) (tl A n) c]) ∧
      DivI L D Q A n m (n - (m - 1)) 0 ∧ Blk w' w.heap.size Q ∧ Blk w' g A ∧ w.grownBy w' (some g) := by
  obtain ⟨i0, hi, hz0, hz1, hz2⟩ := info_parts info22
  have hlen := hD.len
  have hgl := hL.lt
  obtain ⟨q, HQ⟩ : ∃ q, Hid (n - (m - 1) = q) := ⟨_, rfl⟩
  have hq1 : q ≤ 1000 := by have := HQ.out; omega
  rw [HQ.out]
  obtain ⟨l, hl⟩ : ∃ l, m = l + 1 := ⟨m - 1, by omega⟩
  subst hl
  have hql : q = n - l := by have := HQ.out; omega
  have HQL : Hid (q = n - l) := hql
  have hql2 : (q : Int) = max ((n : Int) - (l : Int)) 0 := by omega
  clear hql
  obtain ⟨b1, o1, y, rfl, hbb, HY, hy0, hy1, hcy⟩ := hD.one (show l < l + 1 by omega)
  rw [show l + 1 - 1 = l by omega] at hd
  rw [HY.out] at hd
  have hbg : b1 ≠ g := hne _ rfl
  go_enter Try.func101, Try.ntmps101
  go_wp2_with (first | (go_at_call 78; refine (fInv1 _ _ hy0 hy1 hd).mono ?_; rintro e w' ⟨rfl, hw⟩; have hw := hw.symm; subst hw) | (at_make; refine wpList_make_full _ rfl _ _ 23 rfl w.heap.size 22 i0 (.int .u64 0) 1 Try.underlying23 hi hz0 hz1 .i64 .i64 _ _ q rfl rfl (by omega) (by omega) (by rw [hz2]; omega) (by unfold maxLen; omega) (Nat.le_refl _) ?_; intro w1 hown hgrow))
  all_goals
    have hb1 : Blk w1 w.heap.size (List.replicate q 0) := Blk.made hown
    have hbel1 : Below w.heap.size w w1 := (Below.refl _ _).grown hgrow (Nat.le_refl _) (by simp)
    have hb2 : Blk w1 g L := hL.below hbel1 hgl
    clear hown hgrow
    go_loopw [10] (fun i wr => ∃ (k : Nat) (Q A : List Int), k ≤ q ∧ i = .int .i64 ((k : Int) - 1) ∧ Hid (DivI L D Q A n (l + 1) q k) ∧ Blk wr w.heap.size Q ∧ Blk wr g A ∧ w.grownBy wr (some g)) (fun i _ => (intOf i + 1).toNat)
    case atStart => exact ⟨q, _, _, Nat.le_refl _, by go_num, div_start hLb (by have := HQL.out; omega), hb1, hb2, grown_below hbel1 _⟩
    case round =>
      obtain ⟨k, Q, A, hk, rfl, HI, hbq, hba, hgr⟩ := hrel
      have hlA : A.length = L.length := HI.out.la
      have hlQ : Q.length = q := HI.out.lq
      cases k with
      | zero =>
        have hr : Rd wr (some ⟨g, 0, none⟩) n c (A.take n) := hba.rd 0 n c hc (by unfold maxLen; omega) (by omega) (bd_u64 HI.out.ba)
        go_wp2_with (first | (go_at_call 83; refine (cTrim _ _ _ _ _ hr).mono ?_; rintro e w' ⟨rfl, hw⟩; have hw := hw.symm; subst hw) | fail)
        go_ret2
        refine ⟨Q, A, ?_, HI.out, hbq, hba, hgr⟩
        rw [← tl_take A n n (Nat.le_refl _)]
        rfl
      | succ k =>
        first
        | (exfalso; have := HQL.out; omega)
        | (skip
           have hkn : k + l < n := by have := HQL.out; omega
           have hcx := hba.cell (i := k + l) (by omega)
           obtain ⟨x, hx⟩ : ∃ x, A.getD (k + l) 0 = x := ⟨_, rfl⟩
           have hxb : 0 ≤ x ∧ x ≤ 2147483646 := by rw [← hx]; exact getD_bd' HI.out.ba _
           rw [hx] at hcx
           have HX : Hid (A.getD (k + l) 0 = x) := hx
           clear hx
           have hivb := iv_bd y
           obtain ⟨v, hv⟩ : ∃ v, v = nm (x * iv y) := ⟨_, rfl⟩
           have hvb : 0 ≤ v ∧ v ≤ 2147483646 := by rw [hv]; exact nm_bd _
           have hcq := hbq.cell (i := k) (by omega)
           have hfq := hbq.frozen k
           have hfa := hba.frozen
           have hI2 : Hid (DivI L D (Q.set k v) (addAt A k D (nm (-v)) (l + 1)) n (l + 1) q k) := by
             rw [← Int.zero_sub v]
             exact div_step HI.out (by omega) (by have := HQL.out; omega) (by omega) hlen hn (by rw [show l + 1 - 1 = l by omega, HY.out]; exact hd) (hlast (by omega)) HX.out (by rw [hv, show l + 1 - 1 = l by omega, HY.out])
           have hne2 : w.heap.size ≠ g := by omega
           have hgs : wr.grownBy (wr.setCell ⟨w.heap.size, k, none⟩ (.int .u64 v)) (some w.heap.size) := grown_set _ _ _ _
           have hq2 := hbq.set k v
           have ha2 := hba.grown hgs (by simpa using hne2.symm)
           have hD2 := (hD.grown hgr (fun x hx => by obtain rfl := Option.some.inj hx; simpa using hbg)).grown hgs (fun x hx => by obtain rfl := Option.some.inj hx; simp; omega)
           have hgr2 : w.grownBy (wr.setCell ⟨w.heap.size, k, none⟩ (.int .u64 v)) (some g) := by
             refine ⟨hgr.os, hgr.tape, hgr.output, by simpa using hgr.size, fun j hj hjr => ?_⟩
             rw [heap_setCell_other _ _ _ _ (show j ≠ w.heap.size by omega)]
             exact hgr.block j hj hjr
           have HV : Hid (v = nm (x * iv y)) := hv
           have hck : ¬ c = k := by omega
           have HI' : Hid (∀ x ∈ A, 0 ≤ x ∧ x ≤ 2147483646) := HI.out.ba
           clear hv
           have hcv : (wr.setCell ⟨w.heap.size, k, none⟩ (.int .u64 v)).cell? ⟨w.heap.size, k, none⟩ = some (.int .u64 v) := by
             rw [hq2.cell (by rw [List.length_set]; omega), getD_set, if_pos (by omega)]
           have hsubb := nm_bd (-v)
           have hk0 : (0 : Int) ≤ (k : Int) := by omega
           have hkq : (k : Int) < (q : Int) := by omega
           have hkc : (k : Int) ≤ (n : Int) := by omega
           have hkc2 : (n : Int) ≤ (c : Int) := by omega
           go_wp2_with (first | (go_at_call 35; refine (fMul _ _ _ (by omega) (by omega) (by omega) (by omega)).mono ?_; rintro e w' ⟨he, hw⟩; have hw := hw.symm; subst hw; rw [← HV.out] at he; subst he) | fail)
           generalize hws : wr.setCell ⟨w.heap.size, k, none⟩ (.int .u64 v) = ws at *
           clear hws hbq hba hgr hcx hcq hfq hfa HI hb1 hb2 hbel1 hD hL
           go_region_with (first | (go_at_call 33; refine (fSub _ _ _ (by omega) (by omega) (by omega) (by omega)).mono ?_; rintro e w' ⟨rfl, rfl⟩) | (go_at_call 81; refine (cAddTimes _ _ _ _ _ _ _ _ _ _ _ (by exact ha2) (bd_u64 HI'.out) hD2.drew (by exact hne) (by omega) (by omega) (by omega) (by omega) (by omega)).mono ?_; rintro e w3 ⟨rfl, hb3, hg3⟩))
           all_goals
             have hq3 := (show Blk ws.drew _ _ from hq2).grown hg3 (by simpa using hne2)
             have hg4 := grown_trans (grown_drew hgr2) hg3
             clear hg3 hq2 ha2 hD2 hgr2
             go_wp2
             go_roundw
             case rel => exact ⟨k, _, _, by omega, by go_num, hI2, hq3, hb3, hg4⟩
             case measure => simp [intOf])
theorem tl_small {xs : List Int} {n p : Nat} (h : ∀ t, p ≤ t → t < n → xs.getD t 0 = 0) : tl xs n ≤ p := by
  rcases Nat.lt_or_ge p (tl xs n) with hlt | hge
  · have h1 := tl_top xs n (by omega)
    have h2 := tl_le xs n
    exact absurd (h (tl xs n - 1) (by omega) (by omega)) h1
  · exact hge

/-- What is left of a division when it is done. -/
theorem div_done {X D Q A : List Int} {n N M : Nat} (hX : X.length = n) (hN : N = tl (nz X) n) (hM : 0 < M) (hD : D.length = M) (h : DivI (nz X) D Q A N M (N - (M - 1)) 0) :
    Nml Q ∧ Nml (A.take (tl A N)) ∧ (A.take (tl A N)).length = tl A N ∧ tl A N < M ∧ ∀ t, nm (pc Q D t Q.length + (A.take (tl A N)).getD t 0) = nm (X.getD t 0) := by
  have hNn : N ≤ n := by rw [hN]; exact tl_le _ _
  have hla : A.length = n := by rw [h.la, nz_len, hX]
  have htl := tl_le A N
  have hlen : (A.take (tl A N)).length = tl A N := by simp; omega
  have hsm : tl A N ≤ M - 1 := tl_small fun t h1 h2 => h.hi t (by omega) h2
  refine ⟨⟨h.bq, fun hq => ?_⟩, ⟨fun x hx => h.ba x (List.mem_of_mem_take hx), fun hr => ?_⟩, hlen, by omega, fun t => ?_⟩
  · rw [h.lq] at hq ⊢; exact h.top hq
  · rw [hlen] at hr ⊢; rw [take_getD, if_pos (by omega)]; exact tl_top A N hr
  · rw [h.lq, ← nz_getD]
    have hr : (A.take (tl A N)).getD t 0 = if t < N then A.getD t 0 else 0 := by
      rw [take_getD]
      by_cases h1 : t < tl A N
      · rw [if_pos h1, if_pos (by omega)]
      · rw [if_neg h1]
        by_cases h2 : t < N
        · rw [if_pos h2, tl_above A N t (by omega) h2]
        · rw [if_neg h2]
    rw [hr]
    have hb := getD_bd' (nz_bd' X) t
    by_cases h2 : t < N
    · rw [if_pos h2, Int.add_comm, h.eq t h2, nm_small hb.1 hb.2]
    · rw [if_neg h2, Int.add_zero]
      have e1 : pc Q D t (N - (M - 1)) = 0 := by
        by_cases h3 : M ≤ N + 1
        · exact pc_far Q D t _ (by omega)
        · rw [show N - (M - 1) = 0 by omega]; rfl
      rw [e1]
      by_cases h3 : t < n
      · rw [tl_above (nz X) n t (by omega) h3]; rfl
      · rw [getD_big (show (nz X).length ≤ t by rw [nz_len]; omega)]; rfl

theorem cDivOK (a : Option Addr) (n c : Nat) (xs : List Int) (b : Option Addr) (m d : Nat) (ys : List Int) (w : World) (h : Rd w a n c xs) (g : Rd w b m d ys) (hn : n ≤ 40) (hm : m ≤ 40) (hy : 0 < tl (nz ys) m) :
    Calls Try.prog 88 #[.slice a n c, .slice b m d] w fun e w' => ∃ Q R aq ar cq cr, e = .returned (.tuple #[.slice aq Q.length cq, .slice ar R.length cr, .int .i64 0]) ∧ Rd w' aq Q.length cq Q ∧ Rd w' ar R.length cr R ∧ Nml Q ∧ Nml R ∧
      R.length < (nrm ys).length ∧ Q.length ≤ 40 ∧ (∀ t, nm (pc Q (nrm ys) t Q.length + R.getD t 0) = nm (xs.getD t 0)) ∧ Below w.heap.size w w' := by
  have hn1 := tl_le (nz xs) n
  have hm1 := tl_le (nz ys) m
  have hlx := h.len
  have hly := g.len
  have hlny : (nrm ys).length = tl (nz ys) m := by rw [nrm_len, hly]
  have HT : Hid (0 < tl (nz xs) n → (nz xs).getD (tl (nz xs) n - 1) 0 ≠ 0) := tl_top (nz xs) n
  obtain ⟨N, HN⟩ : ∃ N, Hid (tl (nz xs) n = N) := ⟨_, rfl⟩
  obtain ⟨M, HM⟩ : ∃ M, Hid (tl (nz ys) m = M) := ⟨_, rfl⟩
  rw [HN.out] at hn1 HT
  rw [HM.out] at hm1 hy hlny
  have HD : Hid (nm ((nrm ys).getD (M - 1) 0) ≠ 0) := by
    have h1 := (nrm_Nml ys).top (by omega)
    have h2 := getD_bd' (nrm_Nml ys).bd (M - 1)
    unfold Hid
    rw [nm_small h2.1 h2.2, ← hlny]
    exact h1
  have hMb : ((M : Int) == 0) = false := by rw [beq_eq_false_iff_ne]; omega
  go_enter Try.func88, Try.ntmps88
  go_wp2_with fail
  refine (cNormal _ _ _ _ _ g (by omega)).mono ?_
  rintro e w1 ⟨rfl, hr1, hb1⟩
  rw [HM.out]
  go_wp2_with fail
  refine (cNormal _ _ _ _ _ (h.below hb1) (by omega)).mono ?_
  rintro e w2 ⟨rfl, hr2, hb2⟩
  rw [HN.out]
  have hb12 : Below w.heap.size w w2 := hb1.trans (hb2.mono hb1.size)
  have hsz := hb1.size
  have hlt := hr1.lt
  have r1 := (hr1.below hb2 hr1.lt).nrm hly (by omega)
  rw [HM.out] at r1
  go_wp2_with fail
  refine (cDivide _ _ _ _ _ _ _ _ _ hr2 (nz_bd' xs) (by rw [nz_len]; omega) (by omega) (by omega) r1 (fun x hx => by obtain rfl := Option.some.inj hx; simp only; omega) (by omega) (by omega) HD.out HT.out).mono ?_
  rintro e w3 ⟨Q, A, rfl, hI, hq, ha, hg⟩
  obtain ⟨d1, d2, d3, d4, d5⟩ := div_done hlx HN.out.symm hy hlny hI
  have hlq : Q.length = N - (M - 1) := hI.lq
  have hbel3 := below_grown hb12 hg hsz
  have R1 : Rd w3 (some ⟨w2.heap.size, 0, none⟩) Q.length Q.length Q := by
    have := hq.rd 0 Q.length Q.length (Nat.le_refl _) (by unfold maxLen; omega) (by omega) (bd_u64 d1.bd)
    rwa [List.drop_zero, List.take_of_length_le (by omega)] at this
  have R2 : Rd w3 (some ⟨w1.heap.size, 0, none⟩) (A.take (tl A N)).length n (A.take (tl A N)) := by
    have hla : A.length = n := by rw [hI.la, nz_len, hlx]
    have ht := tl_le A N
    have := ha.rd 0 (tl A N) n (by omega) (by unfold maxLen; omega) (by omega) (bd_u64 hI.ba)
    rw [List.drop_zero] at this
    rw [d3]
    exact this
  have H : Hid (Nml Q ∧ Nml (A.take (tl A N)) ∧ (A.take (tl A N)).length < (nrm ys).length ∧ Q.length ≤ 40 ∧ (∀ t, nm (pc Q (nrm ys) t Q.length + (A.take (tl A N)).getD t 0) = nm (xs.getD t 0))) :=
    ⟨d1, d2, by omega, by omega, d5⟩
  rw [← hlq]
  obtain ⟨T, hT⟩ : ∃ T, T = tl A N := ⟨_, rfl⟩
  obtain ⟨R, hR⟩ : ∃ R, R = A.take (tl A N) := ⟨_, rfl⟩
  rw [← hR] at R2 H d3
  rw [← hT] at d3 ⊢
  rw [← d3]
  clear hT hR
  clear d1 d2 d3 d4 d5 hI hq ha hg hr1 hr2 hb1 hb2 r1 hlq
  go_wp2
  go_ret3
  obtain ⟨k1, k2, k3, k4, k5⟩ := H.out
  exact ⟨Q, R, _, _, _, _, rfl, R1, R2, k1, k2, k3, k4, k5, hbel3⟩
end
end Go.Proofs.Ytljlioglpaogdae

/- poly.Norm, poly.Mul, poly.Eval. · shamir.Deal. · What shares of a dealing tell: plain facts. · poly.Through. · croftref.Fit, croftref.Open. · shamir.weight, shamir.Weights. · shamir.Deal: what it tells is the caller's own. · shamir.Open. -/
import Derived.Test.YtljlioglpaogdagDoorToMxC
import Derived.Test.YtljlioglpaogdagDoorToWireC
import Derived.Test.YtljlioglpaogdagDoorToBadM
import Derived.Laws.AppendOwnNone
import Derived.Test.YtljlioglpaogdagDoorToCheckC
import Derived.Deep.QuietTactic
import Derived.BigQuiet
import Derived.Test.YtljlioglpaogdagDoorToSortM
import Derived.Test.YtljlioglpaogdagDoorProg
import Derived.BigRegion
namespace Go.Proofs.YtljlioglpaogdagDoor
set_option linter.unusedVariables false
set_option maxRecDepth 100000
set_option maxHeartbeats 8000000
section
open Crm Go.RowKit
theorem cEvalOK (a : Option Addr) (n c : Nat) (xs : List Int) (x : Int) (w : World) (h : Rd w a n c xs) (hn : n ≤ 40) (hx0 : 0 ≤ x) (hx1 : x ≤ 18446744073709551615) :
    Calls Tryd.prog 53 #[.slice a n c, .int .u64 x] w fun e w' => e = .returned (.tuple #[.int .u64 (nm (ev xs x)), .int .i64 0]) ∧ Below w.heap.size w w' := by
  go_enter Tryd.func53, Tryd.ntmps53
  go_wp2_with (go_at_call 84; refine (cValue _ _ _ _ _ _ h hx0 hx1).mono ?_; rintro e w1 ⟨rfl, hbel⟩)
  go_ret2
  exact ⟨rfl, hbel⟩
/-- A list that is filled from its beginning on. -/
def fil (f : Nat → Int) (n k : Nat) : List Int := (List.range n).map fun i => if i < k then f i else 0
theorem fil_len (f : Nat → Int) (n k : Nat) : (fil f n k).length = n := by simp [fil]
theorem fil_zero (f : Nat → Int) (n : Nat) : List.replicate n 0 = fil f n 0 := by
  refine list_ext (by simp [fil]) fun t ht => ?_
  have : t < n := by simpa using ht
  simp [fil, this]
theorem fil_set {f : Nat → Int} {n k : Nat} {v : Int} (hv : v = f k) : (fil f n k).set k v = fil f n (k + 1) := by
  refine list_ext (by simp [fil]) fun t ht => ?_
  have htn : t < n := by simpa [fil] using ht
  rw [getD_set, fil_len]
  by_cases e : k = t
  · subst e
    rw [if_pos ⟨rfl, htn⟩, hv]
    simp [fil, htn]
  · rw [if_neg (fun h => e h.1)]
    have : (t < k + 1) = (t < k) := by apply propext; omega
    simp [fil, htn, this]
theorem fil_full (f : Nat → Int) (n : Nat) : fil f n n = (List.range n).map f := by
  refine list_ext (by simp [fil]) fun t ht => ?_
  have htn : t < n := by simpa [fil] using ht
  simp [fil, htn]
theorem fil_bd {f : Nat → Int} (hf : ∀ i, 0 ≤ f i ∧ f i ≤ 2147483646) (n k : Nat) : ∀ x ∈ fil f n k, 0 ≤ x ∧ x ≤ 2147483646 := by
  intro x hx
  obtain ⟨i, _, rfl⟩ := List.mem_map.1 hx
  split
  · exact hf i
  · omega

/-- What is dealt. -/
def dlf (C : List Int) (i : Nat) : Int := nm (ev C ((i : Int) + 1))
theorem dlf_bd (C : List Int) (i : Nat) : 0 ≤ dlf C i ∧ dlf C i ≤ 2147483646 := nm_bd _
def dl (C : List Int) (n : Nat) : List Int := (List.range n).map (dlf C)
theorem dl_len (C : List Int) (n : Nat) : (dl C n).length = n := by simp [dl]
theorem dl_bd (C : List Int) (n : Nat) : ∀ x ∈ dl C n, 0 ≤ x ∧ x ≤ 2147483646 := by
  rw [dl, ← fil_full]; exact fil_bd (dlf_bd C) n n
theorem dl_getD (C : List Int) {n i : Nat} (h : i < n) : (dl C n).getD i 0 = dlf C i := by simp [dl, h]

/-- One number, and a slice behind it; where it lies. -/
theorem wpList_appRB {P : Program} {T : TypeId} (hT : P.underlying T = some (.slice 34)) (info : (P.info? 34).map (fun i => (i.zero, i.size, i.bytes)) = some (some (.int .u64 0), 1, 8))
    (w : World) {ops : Array Oper} {rest : List Oper} {o : Oper} {a : Act} {Q : Exit → Act → World → Prop} (hgd : o.guard = none) (s x : Operand)
    (ho : o.op = .call { callee := .builtin .append, args := #[s, x], argTypes := #[T, T] }) (y : Int) (hy0 : 0 ≤ y) (hy1 : y ≤ 18446744073709551615)
    (a0 : Option Addr) (m c : Nat) (xs : List Int) (hR : Rd w a0 m c xs) (hs : a.eval s = .slice (some ⟨w.heap.size, 0, none⟩) 1 1) (hx : a.eval x = .slice a0 m c) (hm : m ≤ 1000)
    (h : ∀ a' c' w', Rd w' a' (m + 1) c' (y :: xs) → (∀ x, a' = some x → w.heap.size ≤ x.block) → Below w.heap.size w w' → wpList P ops Q rest (a.put o.dst (.slice a' (m + 1) c')) w') :
    wpList P ops Q (o :: rest) a (w.alloc (.cells #[.int .u64 y] 34)) := by
  obtain ⟨i0, hi, hz0, hz1, hz2⟩ := info_parts info
  have hb : Below w.heap.size w (w.alloc (.cells #[.int .u64 y] 34)) := (Below.refl _ _).alloc (Nat.le_refl _) _
  have hown : (w.alloc (.cells #[.int .u64 y] 34)).ownsRow w.heap.size 34 1 (.slice (some ⟨w.heap.size, 0, none⟩) 1 1) 1 [.int .u64 y] :=
    ⟨rfl, Or.inr ⟨_, 1, #[.int .u64 y], rfl, Nat.le_refl _, heap_alloc_new w _, Nat.le_refl _, by unfold maxLen; omega, rfl, rfl⟩⟩
  have hbd : ∀ z ∈ y :: xs, 0 ≤ z ∧ z ≤ 18446744073709551615 := by
    intro z hz
    rcases List.mem_cons.1 hz with rfl | hz
    · exact ⟨hy0, hy1⟩
    · exact hR.bd z hz
  have hl := hR.len
  cases a0 with
  | none =>
    have hc := hR.nil rfl
    have hcap := hR.cap
    obtain rfl : m = 0 := by omega
    subst hc
    obtain rfl : xs = [] := List.eq_nil_of_length_eq_zero hl
    refine wpList_append_own_none hgd s x T ho w.heap.size 34 i0 1 hT hi _ 1 _ hs hown hx ?_
    obtain ⟨a', c', e, hr, hx⟩ := Rd.own (xs := [y]) hown hbd
    rw [e]
    exact h a' c' _ hr hx hb
  | some ad =>
    refine wpList_append_own _ hgd s x T ho w.heap.size 34 i0 (.int .u64 0) 1 8 hT hi hz0 hz1 hz2 rfl (by decide) _ 1 _ hs hown ad m c (xs.map (Value.int .u64)) hx (by rw [List.length_map, hl, Nat.mul_one]) ?_ ?_ (by unfold maxLen; omega) (by omega) (by simp) ?_
    · intro j u hj
      rw [List.getElem?_map] at hj
      have hjl : j < xs.length := by
        rcases Nat.lt_or_ge j xs.length with h' | h'
        · exact h'
        · rw [List.getElem?_eq_none h'] at hj; cases hj
      rw [getD_some hjl] at hj
      simp only [Option.map_some, Option.some.injEq] at hj
      rw [← hj]
      exact (hR.below hb).cell ad rfl j (by omega)
    · intro u hu
      obtain ⟨z, _, rfl⟩ := List.mem_map.1 hu
      rfl
    · intro v' w' hown' hgrow _
      rw [Nat.add_comm] at hown'
      obtain ⟨a', c', rfl, hr, hx⟩ := Rd.own (xs := y :: xs) hown' hbd
      refine h a' c' w' hr hx (hb.grown hgrow (by simp) (fun k hk => ?_))
      simp [Value.ownBlock] at hk
      omega
theorem wpList_appR {P : Program} {T : TypeId} (hT : P.underlying T = some (.slice 34)) (info : (P.info? 34).map (fun i => (i.zero, i.size, i.bytes)) = some (some (.int .u64 0), 1, 8))
    (w : World) {ops : Array Oper} {rest : List Oper} {o : Oper} {a : Act} {Q : Exit → Act → World → Prop} (hgd : o.guard = none) (s x : Operand)
    (ho : o.op = .call { callee := .builtin .append, args := #[s, x], argTypes := #[T, T] }) (y : Int) (hy0 : 0 ≤ y) (hy1 : y ≤ 18446744073709551615)
    (a0 : Option Addr) (m c : Nat) (xs : List Int) (hR : Rd w a0 m c xs) (hs : a.eval s = .slice (some ⟨w.heap.size, 0, none⟩) 1 1) (hx : a.eval x = .slice a0 m c) (hm : m ≤ 1000)
    (h : ∀ a' c' w', Rd w' a' (m + 1) c' (y :: xs) → Below w.heap.size w w' → wpList P ops Q rest (a.put o.dst (.slice a' (m + 1) c')) w') :
    wpList P ops Q (o :: rest) a (w.alloc (.cells #[.int .u64 y] 34)) :=
  wpList_appRB hT info w hgd s x ho y hy0 hy1 a0 m c xs hR hs hx hm fun a' c' w' h1 _ h2 => h a' c' w' h1 h2

theorem cDealOK (s : Int) (a : Option Addr) (m c : Nat) (xs : List Int) (n : Nat) (w : World) (h : Rd w a m c xs) (hs0 : 0 ≤ s) (hs1 : s ≤ 18446744073709551615) (hm : m ≤ 4) (hn : m < n) (hn9 : n ≤ 9) :
    Calls Tryd.prog 13 #[.int .u64 s, .slice a m c, .int .i64 n] w fun e w' => ∃ g, e = .returned (.tuple #[.slice (some ⟨g, 0, none⟩) n n, .int .i64 0]) ∧ Rd w' (some ⟨g, 0, none⟩) n n (dl (s :: xs) n) ∧ w.heap.size ≤ g ∧ Below w.heap.size w w' := by
  obtain ⟨i0, hi, hz0, hz1, hz2⟩ := info_parts info34
  have hlen := h.len
  go_enter Tryd.func13, Tryd.ntmps13
  go_wp2_with (first | (at_builtin; refine wpList_appR Tryd.underlying22 info34 _ rfl _ _ rfl s hs0 hs1 a m c xs h rfl rfl (by omega) ?_; intro a1 c1 w1 hr1 hb1) | (at_make; refine wpList_make_full _ rfl _ _ 22 rfl w1.heap.size 34 i0 (.int .u64 0) 1 Tryd.underlying22 hi hz0 hz1 .i64 .i64 _ _ n rfl rfl (by omega) (by omega) (by rw [hz2]; omega) (by unfold maxLen; omega) (Nat.le_refl _) ?_; intro w2 hown hgrow))
  have hs1 := hb1.size
  have hB2 : Blk w2 w1.heap.size (fil (dlf (s :: xs)) n 0) := by rw [← fil_zero]; exact Blk.made hown
  have hb2 : Below w1.heap.size w1 w2 := (Below.refl _ _).grown hgrow (Nat.le_refl _) (by simp)
  have hb12 : Below w.heap.size w w2 := hb1.trans (hb2.mono hs1)
  clear hown hgrow
  go_loopw [32] (fun i wr => ∃ k : Nat, k ≤ n ∧ i = .int .i64 k ∧ Blk wr w1.heap.size (fil (dlf (s :: xs)) n k) ∧ Below w1.heap.size w1 wr ∧ Below w.heap.size w wr) (fun i _ => n - (intOf i).toNat)
  case atStart => exact ⟨0, Nat.zero_le _, rfl, hB2, hb2, hb12⟩
  case round =>
    clear hB2 hb2 hb12
    obtain ⟨k, hk, rfl, hblk, hbe1, hbel⟩ := hrel
    by_cases hlt : k < n
    · have hr := hr1.below hbe1
      have HF : Hid (nm (ev (s :: xs) ((k : Int) + 1)) = dlf (s :: xs) k) := rfl
      go_wp2_with fail
      refine (cEvalOK _ _ _ _ _ _ hr (by omega) (by omega) (by omega)).mono ?_
      rintro e w3 ⟨rfl, hb3⟩
      rw [HF.out]
      have hblk3 := hblk.below hb3 hblk.lt
      have hcell := hblk3.cell (i := k) (by rw [fil_len]; exact hlt)
      have hfz := hblk3.frozen k
      have hlt3 := hblk3.lt
      have hblk4 := hblk3.set k (dlf (s :: xs) k)
      rw [fil_set rfl] at hblk4
      have hbe3 := hbe1.trans (hb3.mono hbe1.size)
      have hbel3 := hbel.trans (hb3.mono hbel.size)
      have Hb4 : Hid (Below w1.heap.size w1 (w3.setCell ⟨w1.heap.size, k, none⟩ (.int .u64 (dlf (s :: xs) k)))) := hbe3.setCell (Nat.le_refl _) _
      have Hb5 : Hid (Below w.heap.size w (w3.setCell ⟨w1.heap.size, k, none⟩ (.int .u64 (dlf (s :: xs) k)))) := hbel3.setCell hs1 _
      clear hbe1 hbel hb3 hblk hblk3 hbe3 hbel3 hr
      go_wp2
      go_roundw
      case rel => exact ⟨k + 1, by omega, by go_num, hblk4, Hb4.out, Hb5.out⟩
      case measure => simp [intOf]; omega
    · have hkn : k = n := by omega
      subst hkn
      have hr : Rd wr (some ⟨w1.heap.size, 0, none⟩) k k (dl (s :: xs) k) := by
        rw [fil_full] at hblk
        exact Blk.whole hblk k (dl_len _ _).symm (by unfold maxLen; omega) (bd_u64 (dl_bd _ _))
      go_wp2
      go_ret2
      exact ⟨_, rfl, hr, hs1, hbel⟩
end
section
open Crm
/-- Enough shares of a dealing open it. -/
theorem any_open {C : List Int} {l : List (Int × Int)} {n k : Nat} (hd : dis (fa l) n) (hk : k ≤ 4) (hkn : k < n) (hC : C.length ≤ k + 1) (hy : Hs l n C) {x r : Int} (h : Opn l n k x r) : x = nm (ev C 0) ∧ r = 0 := by
  have h1 : Opn l n k (nm (ev C 0)) 0 := Or.inr ⟨Or.inr (Or.inr (Or.inr ⟨⟨by omega, by omega⟩, hd, by omega, rfl⟩)), Or.inl ⟨C, by omega, hy, rfl, rfl⟩⟩
  exact h.one h1
end
section
open Crm Go.RowKit
/-- A row that a list's text lays. -/
theorem Blk.lit1 (w : World) (x : Int) : Blk (w.alloc (.cells #[.int .u64 x] 34)) w.heap.size [x] := heap_alloc_new w _
theorem Blk.lit2 (w : World) (x y : Int) : Blk (w.alloc (.cells #[.int .u64 x, .int .u64 y] 34)) w.heap.size [x, y] := heap_alloc_new w _

theorem cThroughOK (a : Option Addr) (n c : Nat) (l : List (Int × Int)) (w : World) (h : RdS w a n c l) (hn : n ≤ 40) (ho : okk l n) :
    Calls Tryd.prog 75 #[.slice a n c] w fun e w' => ∃ S g, e = .returned (.tuple #[.slice (some ⟨g, 0, none⟩) (tl S n) n, .int .i64 0]) ∧ S.length = n ∧ (∀ x ∈ S, 0 ≤ x ∧ x ≤ 2147483646) ∧
      (∀ j, j < n → nm (ev S (l.getD j (0, 0)).1) = nm (l.getD j (0, 0)).2) ∧ Rd w' (some ⟨g, 0, none⟩) (tl S n) n (trm S) ∧ Below w.heap.size w w' := by
  obtain ⟨i0, hi, hz0, hz1, hz2⟩ := info_parts info34
  have HO : Hid (okk l n) := ho
  clear ho
  have hlen := h.len
  go_enter Tryd.func75, Tryd.ntmps75
  go_wp2_with fail
  refine (cPlaced _ _ _ _ _ h (by omega)).mono ?_
  rintro e w1 ⟨r, rfl, hr, hb1⟩
  obtain rfl : r = true := hr.2 HO.out
  clear hr
  have hs1 := hb1.size
  go_wp2_with (at_make; refine wpList_make_full _ rfl _ _ 22 rfl w1.heap.size 34 i0 (.int .u64 0) 1 Tryd.underlying22 hi hz0 hz1 .i64 .i64 _ _ n rfl rfl (by omega) (by omega) (by rw [hz2]; omega) (by unfold maxLen; omega) (Nat.le_refl _) ?_; intro w2 hown hgrow)
  have hB2 : Blk w2 w1.heap.size (List.replicate n 0) := Blk.made hown
  have hb2 : Below w1.heap.size w1 w2 := (Below.refl _ _).grown hgrow (Nat.le_refl _) (by simp)
  have hb12 : Below w.heap.size w w2 := hb1.trans (hb2.mono hs1)
  clear hown hgrow
  obtain ⟨g1, hg1⟩ : ∃ g1, g1 = w1.heap.size := ⟨_, rfl⟩
  rw [← hg1] at hB2 hs1 ⊢
  clear hg1 hb2 hb1
  have hgl := hB2.lt
  go_loopw [5, 24] (fun z i wr => ∃ (k : Nat) (S Z : List Int) (gz : Nat), k ≤ n ∧ i = .int .i64 k ∧ z = .slice (some ⟨gz, 0, none⟩) (k + 1) (k + 1) ∧ Hid (NwI l n k S Z) ∧ Blk wr g1 S ∧ Blk wr gz Z ∧ gz ≠ g1 ∧ Below w.heap.size w wr) (fun _ i _ => n - (intOf i).toNat)
  case atStart => exact ⟨0, _, _, _, Nat.zero_le _, rfl, rfl, nw_start l n, hB2.below ((Below.refl _ _).alloc (Nat.le_refl _) _) hgl, Blk.lit1 _ _, by omega, hb12.alloc (hb12.size) _⟩
  case round =>
    obtain ⟨k, S, Z, gz, hk, rfl, rfl, HI, hbs, hbz, hne, hbel⟩ := hrel
    have hls := HI.out.ls
    have hlz := HI.out.lz
    have HBS : Hid (∀ x ∈ S, 0 ≤ x ∧ x ≤ 2147483646) := HI.out.bs
    have HBZ : Hid (∀ x ∈ Z, 0 ≤ x ∧ x ≤ 2147483646) := HI.out.bz
    by_cases hlt : k < n
    · obtain ⟨b, o, x, y, rfl, hbb, HX, HY, hx0, hx1, hy0, hy1, hcx, hcy⟩ := (h.below hbel).one hlt
      have hxo := (HO.out k hlt).1
      rw [HX.out] at hxo
      have hxo1 := hxo.1
      have hxo2 := hxo.2
      have HE : Hid (nm (nm (ev Z x)) ≠ 0) := by rw [nm_nm, ← HX.out]; exact HI.out.z1 k (Nat.le_refl _) hlt
      have hnS := nm_bd (ev S x)
      have hnZ := nm_bd (ev Z x)
      have hnL := nm_bd (y - nm (ev S x))
      have hiv := iv_bd (nm (ev Z x))
      have hnX := nm_bd (-x)
      have hbA : Below wr.heap.size wr (wr.alloc (.cells #[.int .i64 x, .int .u64 y] 68)) := (Below.refl _ _).alloc (Nat.le_refl _) _
      have hcA0 := cell_alloc0 wr (.int .i64 x) (.int .u64 y) 68
      have hcA1 := cell_alloc1 wr (.int .i64 x) (.int .u64 y) 68
      go_wp2
      generalize hW : wr.alloc (.cells #[.int .i64 x, .int .u64 y] 68) = W at *
      clear hW
      have hbelW : Below w.heap.size w W := hbel.trans (hbA.mono hbel.size)
      have hbsW := hbs.below hbA hbs.lt
      have hbzW := hbz.below hbA hbz.lt
      have rS : Rd W (some ⟨g1, 0, none⟩) n n S := hbsW.whole n hls.symm (by unfold maxLen; omega) (bd_u64 HBS.out)
      have rZ : Rd W (some ⟨gz, 0, none⟩) (k + 1) (k + 1) Z := hbzW.whole (k + 1) hlz.symm (by unfold maxLen; omega) (bd_u64 HBZ.out)
      clear hbA hbs hbz hbel hcx hcy
      go_quiet ((first | (go_at_call 84; exact Calls.quiet_of (cValueQ _ _ _ _ _ _ (rS.drewN _) (by omega) (by omega))) | (go_at_call 59; exact Calls.quiet_of_same (fSub _ _ _ (by omega) (by omega) (by omega) (by omega)))))
      go_wp2_with fail
      refine (cValueQ _ _ _ _ _ _ (rZ.drewN _) (by omega) (by omega)).mono ?_
      rintro e w3 ⟨rfl, q3, rfl⟩
      go_wp2_with fail
      refine (fInv1 _ _ (by omega) (by omega) HE.out).mono ?_
      rintro e w3 ⟨rfl, rfl⟩
      obtain ⟨t, HT⟩ : ∃ t, Hid (t = nm (nm (y - nm (ev S x)) * iv (nm (ev Z x)))) := ⟨_, rfl⟩
      have hnt : 0 ≤ t ∧ t ≤ 2147483646 := by rw [HT.out]; exact nm_bd _
      have HI2 : Hid (NwI l n (k + 1) (addAt S 0 Z t (k + 1)) (cvl Z [nm (-x), 1])) := nw_step HI.out hlt HO.out HX.out HY.out HT.out
      go_wp2_with (go_at_call 49; refine (fMul _ _ _ (by omega) (by omega) (by omega) (by omega)).mono ?_; rintro e w3 ⟨he, rfl⟩; rw [← HT.out] at he; subst he)
      refine (cAddTimes _ _ _ _ _ _ _ _ _ _ _ (by exact hbsW) (bd_u64 HBS.out) (rZ.drewN _) (fun x hx => by obtain rfl := Option.some.inj hx; exact hne) (by omega) (by omega) (by omega) (by omega) (by omega)).mono ?_
      rintro e w4 ⟨rfl, hb4, hg4⟩
      have hz4 : Blk w4 gz Z := Blk.grown (by exact hbzW) hg4 (by simpa using hne)
      have hbel4 : Below w.heap.size w w4 := below_grown (drewN_below hbelW _) hg4 hs1
      have hbB : Below w4.heap.size w4 (w4.alloc (.cells #[.int .u64 (nm (-x)), .int .u64 1] 34)) := (Below.refl _ _).alloc (Nat.le_refl _) _
      have hp4 := Blk.lit2 w4 (nm (-x)) 1
      clear hbelW hbsW hbzW rS rZ hg4 hcA0 hcA1
      go_wp2_with (go_at_call 59; refine (fSub _ _ _ (by omega) (by omega) (by omega) (by omega)).mono ?_; rintro e w3 ⟨rfl, hw⟩; have hw := hw.symm; subst hw)
      generalize hW5 : w4.alloc (.cells #[.int .u64 (nm (-x)), .int .u64 1] 34) = W5 at *
      have hs5 : w4.heap.size < W5.heap.size := hp4.lt
      clear hW5
      have hbel5 : Below w.heap.size w W5 := hbel4.trans (hbB.mono hbel4.size)
      have hz5 := hz4.below hbB hz4.lt
      have hb5 := hb4.below hbB hb4.lt
      have hl5 := hb5.lt
      have rZ5 : Rd W5 (some ⟨gz, 0, none⟩) (k + 1) (k + 1) Z := hz5.whole (k + 1) hlz.symm (by unfold maxLen; omega) (bd_u64 HBZ.out)
      have rP5 : Rd W5 (some ⟨w4.heap.size, 0, none⟩) 2 2 [nm (-x), 1] := hp4.whole 2 rfl (by unfold maxLen; omega) (by
        intro u hu
        simp only [List.mem_cons, List.not_mem_nil, or_false] at hu
        rcases hu with rfl | rfl <;> omega)
      refine (cProduct _ _ _ _ _ _ _ _ _ rZ5 rP5 (by omega) (by omega) (by omega) (by omega)).mono ?_
      rintro e w6 ⟨rfl, hb6, hbel6⟩
      have hs6 := hb5.below hbel6 hb5.lt
      have hbel7 := hbel5.trans (hbel6.mono hbel5.size)
      clear hbel6 hbel5 hz5 hb5 rZ5 rP5 hp4 hz4 hb4 hbB hbel4
      go_wp2
      go_roundw
      case rel => exact ⟨k + 1, _, _, _, by omega, by go_num, rfl, HI2, hs6, hb6, by omega, hbel7⟩
      case measure => simp [intOf]; omega
    · have hkn : k = n := by omega
      subst hkn
      have rS : Rd wr (some ⟨g1, 0, none⟩) k k S := hbs.whole k hls.symm (by unfold maxLen; omega) (bd_u64 HBS.out)
      go_wp2_with (go_at_call 88; refine (cTrim _ _ _ _ _ rS).mono ?_; rintro e w' ⟨rfl, hw⟩; have hw := hw.symm; subst hw)
      go_ret2
      refine ⟨S, g1, rfl, hls, HBS.out, HI.out.s, ?_, hbel⟩
      have ht := tl_le S k
      have := hbs.rd 0 (tl S k) k ht (by unfold maxLen; omega) (by omega) (bd_u64 HBS.out)
      rw [List.drop_zero] at this
      have e : trm S = S.take (tl S k) := by unfold trm; rw [hls]
      rw [e]
      exact this
theorem RdS.take {w : World} {a : Option Addr} {n c : Nat} {l : List (Int × Int)} (h : RdS w a n c l) {k : Nat} (hk : k ≤ n) : RdS w a k c (l.take k) := by
  have e : ∀ i, i < k → (l.take k).getD i (0, 0) = l.getD i (0, 0) := fun i hi => by simp [hi]
  refine ⟨by have := h.len; simp; omega, by have := h.cap; omega, h.max, fun i hi => ?_, h.nil, fun x hx i hi => ?_⟩
  · rw [e i hi]; exact h.bd i (by omega)
  · rw [e i hi]; exact h.cell x hx i (by omega)
theorem neq_bool {x y : Int} (h : x ≠ y) : (x != y) = true := by rw [bne_iff_ne]; exact h

theorem cWeight (a : Option Addr) (n c : Nat) (ts : List Int) (i : Nat) (w : World) (h : RdI w a n c ts) (hd : dis (fi ts) n) (hi : i < n) :
    Calls Tryd.prog 106 #[.int .i64 (ts.getD i 0), .slice a n c] w fun e w' => e = .returned (.int .u64 (wt ts n i)) ∧ w' = w := by
  have HD : Hid (dis (fi ts) n) := hd
  have hn9 := dis_nine hd
  obtain ⟨T, HT⟩ : ∃ T, Hid (ts.getD i 0 = T) := ⟨_, rfl⟩
  have hT1 := (hd i hi).1
  unfold fi at hT1
  rw [HT.out] at hT1 ⊢
  have hT2 := hT1.2
  have hT1 := hT1.1
  clear hd
  go_enter Tryd.func106, Tryd.ntmps106
  go_wp2
  go_loop [5, 6, 13] (fun u v q => ∃ (k : Nat) (A B : Int), k ≤ n ∧ q = .int .i64 k ∧ u = .int .u64 A ∧ v = .int .u64 B ∧ 0 ≤ A ∧ A ≤ 2147483646 ∧ 0 ≤ B ∧ B ≤ 2147483646 ∧ Hid (A = nm (pr ts T 0 k)) ∧ Hid (B = nm (pr ts T T k))) (fun _ _ q => n - (intOf q).toNat)
  case atStart => exact ⟨0, 1, 1, Nat.zero_le _, rfl, rfl, rfl, by omega, by omega, by omega, by omega, by rw [pr]; rfl, by rw [pr]; rfl⟩
  case round =>
    obtain ⟨k, A, B, hk, rfl, rfl, rfl, hA0, hA1, hB0, hB1, HA, HB⟩ := hrel
    by_cases hlt : k < n
    · obtain ⟨b, o, x, rfl, hbb, HX, hx0, hx1, hcx⟩ := h.one hlt
      have hx := (HD.out k hlt).1
      unfold fi at hx
      rw [HX.out] at hx
      have hx9 := hx.2
      have hx1 := hx.1
      clear hx
      by_cases hxT : x = T
      · have hb : (x != T) = false := by rw [hxT]; simp
        have HA2 : Hid (A = nm (pr ts T 0 (k + 1))) := by unfold Hid; rw [pr_skip (by rw [HX.out]; exact hxT)]; exact HA.out
        have HB2 : Hid (B = nm (pr ts T T (k + 1))) := by unfold Hid; rw [pr_skip (by rw [HX.out]; exact hxT)]; exact HB.out
        clear hxT
        go_wp2
        go_round
        case rel => exact ⟨k + 1, A, B, by omega, by go_num, rfl, rfl, hA0, hA1, hB0, hB1, HA2, HB2⟩
        case measure => simp [intOf]; omega
      · have hb : (x != T) = true := neq_bool hxT
        have HA2 : Hid (nm (A * x) = nm (pr ts T 0 (k + 1))) := by
          unfold Hid; rw [pr_take (by rw [HX.out]; exact hxT), HX.out, HA.out, nm_mull, Int.sub_zero]
        have HB2 : Hid (nm (B * nm (x - T)) = nm (pr ts T T (k + 1))) := by
          unfold Hid; rw [pr_take (by rw [HX.out]; exact hxT), HX.out, HB.out, nm_mull, nm_mulr]
        have n1 := nm_bd (A * x)
        have n2 := nm_bd (x - T)
        have n3 := nm_bd (B * nm (x - T))
        clear hxT
        go_wp2_with (first | (go_at_call 49; refine (fMul _ _ _ (by omega) (by omega) (by omega) (by omega)).mono ?_; rintro e w3 ⟨rfl, hw⟩; have hw := hw.symm; subst hw) | (go_at_call 59; refine (fSub _ _ _ (by omega) (by omega) (by omega) (by omega)).mono ?_; rintro e w3 ⟨rfl, hw⟩; have hw := hw.symm; subst hw))
        go_round
        case rel => exact ⟨k + 1, _, _, by omega, by go_num, rfl, rfl, n1.1, n1.2, n3.1, n3.2, HA2, HB2⟩
        case measure => simp [intOf]; omega
    · have hkn : k = n := by omega
      subst hkn
      have HW : Hid (nm (A * iv B) = wt ts k i) := by unfold Hid wt; rw [HT.out, HA.out, HB.out]
      have HNZ : Hid (nm B ≠ 0) := by
        unfold Hid; rw [HB.out, nm_nm, ← HT.out]; exact pr_own HD.out hi k (Nat.le_refl _)
      have hib := iv_bd B
      have hnb := nm_bd (A * iv B)
      go_wp2_with (first | (go_at_call 87; refine (fInv1 _ _ (by omega) (by omega) HNZ.out).mono ?_; rintro e w3 ⟨rfl, hw⟩; have hw := hw.symm; subst hw) | (go_at_call 49; refine (fMul _ _ _ (by omega) (by omega) (by omega) (by omega)).mono ?_; rintro e w3 ⟨rfl, hw⟩; have hw := hw.symm; subst hw))
      go_ret
      rw [HW.out]
      exact ⟨rfl, rfl⟩

/-- What Weights answers: a list of weights, or ErrForm. -/
def Wts (ts : List Int) (n : Nat) (w : World) (e : Ending) (w' : World) : Prop :=
  ((¬ dis (fi ts) n ∧ e = .returned (.tuple #[.slice none 0 0, .int .i64 5])) ∨ (dis (fi ts) n ∧ ∃ g, e = .returned (.tuple #[.slice (some ⟨g, 0, none⟩) n n, .int .i64 0]) ∧ Rd w' (some ⟨g, 0, none⟩) n n ((List.range n).map (wt ts n)) ∧ w.heap.size ≤ g)) ∧ Below w.heap.size w w'

theorem cWeights1 (a : Option Addr) (n c : Nat) (ts : List Int) (w : World) (h : RdI w a n c ts) (hn0 : 0 < n) :
    Calls Tryd.prog 86 #[.slice a n c] w fun e w' => Wts ts n w e w' := by
  obtain ⟨i0, hi, hz0, hz1, hz2⟩ := info_parts info34
  have hcap := h.cap
  have hmax := h.max
  unfold maxLen at hmax
  have hnb : ((n : Int) == 0) = false := by rw [beq_eq_false_iff_ne]; omega
  go_enter Tryd.func86, Tryd.ntmps86
  go_wp2
  go_loopw [15] (fun i wr => ∃ (k : Nat) (M : List Bool), k ≤ n ∧ i = .int .i64 k ∧ Hid (Mk (fi ts) k M) ∧ BlkB wr w.heap.size M ∧ Below w.heap.size w wr) (fun i _ => n - (intOf i).toNat)
  case atStart => exact ⟨0, _, Nat.zero_le _, rfl, mk_start _, heap_alloc_new w _, (Below.refl _ _).alloc (Nat.le_refl _) _⟩
  case round =>
    obtain ⟨k, M, hk, rfl, HM, hB2, hbel2⟩ := hrel
    have hs1 := hbel2.size
    have hlM := HM.out.len
    by_cases hlt : k < n
    · obtain ⟨b, o, x, rfl, hbb, HX, hx0, hx1, hcx⟩ := (h.below hbel2).one hlt
      go_wp2_with fail
      clear hcx
      by_cases hx : x < 1 ∨ 9 < x
      · have HN : Hid (¬ dis (fi ts) n) := mk_out hlt HX.out hx
        refine (cJoinO _ _ _ hx).mono ?_
        rintro e w' ⟨rfl, hw⟩
        have hw := hw.symm
        subst hw
        clear hx
        go_wp2
        go_ret2
        exact ⟨Or.inl ⟨HN.out, rfl⟩, hbel2⟩
      · obtain ⟨p, rfl⟩ : ∃ p : Nat, x = p := ⟨x.toNat, by omega⟩
        cases hm : M.getD p false with
        | true =>
          have HN : Hid (¬ dis (fi ts) n) := mk_twice HM.out hlt HX.out (by omega) (by omega) hm
          refine (cJoinN _ _ _ _ hB2 hlM (by omega) (by omega) hm).mono ?_
          rintro e w' ⟨rfl, hw⟩
          have hw := hw.symm
          subst hw
          clear hm
          go_wp2
          go_ret2
          exact ⟨Or.inl ⟨HN.out, rfl⟩, hbel2⟩
        | false =>
          have HM2 : Hid (Mk (fi ts) (k + 1) (M.set p true)) := mk_step HM.out HX.out (by omega) (by omega) hm
          refine (cJoinY _ _ _ _ hB2 hlM (by omega) (by omega) hm).mono ?_
          rintro e w' ⟨rfl, rfl⟩
          have hB3 := hB2.set p true
          have hbel3 := below_grown hbel2 (grown_set wr w.heap.size p (.bool true)) (Nat.le_refl _)
          generalize wr.setCell ⟨w.heap.size, p, none⟩ (.bool true) = W3 at *
          clear hm
          go_wp2
          go_roundw
          case rel => exact ⟨k + 1, _, by omega, by go_num, HM2, hB3, hbel3⟩
          case measure => simp [intOf]; omega
    · have hkn : k = n := by omega
      subst hkn
      have HD : Hid (dis (fi ts) k) := HM.out.dis
      have hk9 := dis_nine HD.out
      obtain ⟨wo, hwo⟩ : ∃ wo, wo = wr := ⟨_, rfl⟩
      subst hwo
      clear hB2 hlM HM
      go_wp2_with (at_make; refine wpList_make_full _ rfl _ _ 22 rfl wo.heap.size 34 i0 (.int .u64 0) 1 Tryd.underlying22 hi hz0 hz1 .i64 .i64 _ _ k rfl rfl (by omega) (by omega) (by rw [hz2]; omega) (by unfold maxLen; omega) (Nat.le_refl _) ?_; intro w2 hown hgrow)
      have hB2 : Blk w2 wo.heap.size (fil (wt ts k) k 0) := by rw [← fil_zero]; exact Blk.made hown
      have hb2 : Below wo.heap.size wo w2 := (Below.refl _ _).grown hgrow (Nat.le_refl _) (by simp)
      have hb12 : Below w.heap.size w w2 := hbel2.trans (hb2.mono hs1)
      clear hown hgrow hb2
      go_loopw [28] (fun i wr => ∃ j : Nat, j ≤ k ∧ i = .int .i64 j ∧ Blk wr wo.heap.size (fil (wt ts k) k j) ∧ Below w.heap.size w wr) (fun i _ => k - (intOf i).toNat)
      case atStart => exact ⟨0, Nat.zero_le _, rfl, hB2, hb12⟩
      case round =>
        clear hB2 hb12
        obtain ⟨j, hj, rfl, hblk, hbel⟩ := hrel
        by_cases hlt2 : j < k
        · have hI := h.below hbel
          obtain ⟨b, o, x, rfl, hbb, HX, hx0, hx1, hcx⟩ := hI.one hlt2
          have hcell := hblk.cell (i := j) (by rw [fil_len]; exact hlt2)
          have hfz := hblk.frozen j
          have hlt3 := hblk.lt
          have hblk4 := hblk.set j (wt ts k j)
          rw [fil_set rfl] at hblk4
          have Hb5 : Hid (Below w.heap.size w (wr.setCell ⟨wo.heap.size, j, none⟩ (.int .u64 (wt ts k j)))) := hbel.setCell hs1 _
          have hcw := cWeight _ _ _ _ j wr hI HD.out hlt2
          rw [HX.out] at hcw
          clear hbel hblk
          go_wp2_with (go_at_call 106; refine hcw.mono ?_; rintro e w3 ⟨rfl, hw⟩; have hw := hw.symm; subst hw; clear hcw)
          go_roundw
          case rel => exact ⟨j + 1, by omega, by go_num, hblk4, Hb5.out⟩
          case measure => simp [intOf]; omega
        · have hjk : j = k := by omega
          subst hjk
          have hr : Rd wr (some ⟨wo.heap.size, 0, none⟩) j j ((List.range j).map (wt ts j)) := by
            rw [fil_full] at hblk
            exact Blk.whole hblk j (by simp) (by unfold maxLen; omega) (bd_u64 (by rw [← fil_full]; exact fil_bd (wt_bd ts j) j j))
          go_wp2
          go_ret2
          exact ⟨Or.inr ⟨HD.out, _, rfl, hr, hs1⟩, hbel⟩
theorem cDealB (s : Int) (a : Option Addr) (m c : Nat) (xs : List Int) (n : Nat) (w : World) (h : Rd w a m c xs) (hs0 : 0 ≤ s) (hs1 : s ≤ 18446744073709551615) (hm : m ≤ 4) (hn : m < n) (hn9 : n ≤ 9) :
    Calls Tryd.prog 13 #[.int .u64 s, .slice a m c, .int .i64 n] w fun e w' => ∃ v, e = .returned (.tuple #[v, .int .i64 0]) ∧ w'.ownsRow w.heap.size 34 1 v n ((dl (s :: xs) n).map (Value.int .u64)) ∧ Below w.heap.size w w' := by
  obtain ⟨i0, hi, hz0, hz1, hz2⟩ := info_parts info34
  have hlen := h.len
  go_enter Tryd.func13, Tryd.ntmps13
  go_wp2_with (first | (at_builtin; refine wpList_appR Tryd.underlying22 info34 _ rfl _ _ rfl s hs0 hs1 a m c xs h rfl rfl (by omega) ?_; intro a1 c1 w1 hr1 hb1) | (at_make; refine wpList_make_full _ rfl _ _ 22 rfl w1.heap.size 34 i0 (.int .u64 0) 1 Tryd.underlying22 hi hz0 hz1 .i64 .i64 _ _ n rfl rfl (by omega) (by omega) (by rw [hz2]; omega) (by unfold maxLen; omega) (Nat.le_refl _) ?_; intro w2 hown hgrow))
  have hs1 := hb1.size
  have hB2 : Blk w2 w1.heap.size (fil (dlf (s :: xs)) n 0) := by rw [← fil_zero]; exact Blk.made hown
  have hb2 : Below w1.heap.size w1 w2 := (Below.refl _ _).grown hgrow (Nat.le_refl _) (by simp)
  have hb12 : Below w.heap.size w w2 := hb1.trans (hb2.mono hs1)
  clear hown hgrow
  go_loopw [32] (fun i wr => ∃ k : Nat, k ≤ n ∧ i = .int .i64 k ∧ Blk wr w1.heap.size (fil (dlf (s :: xs)) n k) ∧ Below w1.heap.size w1 wr ∧ Below w.heap.size w wr) (fun i _ => n - (intOf i).toNat)
  case atStart => exact ⟨0, Nat.zero_le _, rfl, hB2, hb2, hb12⟩
  case round =>
    clear hB2 hb2 hb12
    obtain ⟨k, hk, rfl, hblk, hbe1, hbel⟩ := hrel
    by_cases hlt : k < n
    · have hr := hr1.below hbe1
      have HF : Hid (nm (ev (s :: xs) ((k : Int) + 1)) = dlf (s :: xs) k) := rfl
      go_wp2_with fail
      refine (cEvalOK _ _ _ _ _ _ hr (by omega) (by omega) (by omega)).mono ?_
      rintro e w3 ⟨rfl, hb3⟩
      rw [HF.out]
      have hblk3 := hblk.below hb3 hblk.lt
      have hcell := hblk3.cell (i := k) (by rw [fil_len]; exact hlt)
      have hfz := hblk3.frozen k
      have hlt3 := hblk3.lt
      have hblk4 := hblk3.set k (dlf (s :: xs) k)
      rw [fil_set rfl] at hblk4
      have hbe3 := hbe1.trans (hb3.mono hbe1.size)
      have hbel3 := hbel.trans (hb3.mono hbel.size)
      have Hb4 : Hid (Below w1.heap.size w1 (w3.setCell ⟨w1.heap.size, k, none⟩ (.int .u64 (dlf (s :: xs) k)))) := hbe3.setCell (Nat.le_refl _) _
      have Hb5 : Hid (Below w.heap.size w (w3.setCell ⟨w1.heap.size, k, none⟩ (.int .u64 (dlf (s :: xs) k)))) := hbel3.setCell hs1 _
      clear hbe1 hbel hb3 hblk hblk3 hbe3 hbel3 hr
      go_wp2
      go_roundw
      case rel => exact ⟨k + 1, by omega, by go_num, hblk4, Hb4.out, Hb5.out⟩
      case measure => simp [intOf]; omega
    · have hkn : k = n := by omega
      subst hkn
      have hr : wr.ownsRow w.heap.size 34 1 (.slice (some ⟨w1.heap.size, 0, none⟩) k k) k ((dl (s :: xs) k).map (Value.int .u64)) := by
        rw [fil_full] at hblk
        exact ⟨by rw [List.length_map, dl_len, Nat.mul_one], .inr ⟨_, k, _, rfl, hs1, hblk, Nat.le_refl _, by unfold maxLen; omega, by simp, by rw [List.toList_toArray, Nat.mul_one, List.take_of_length_le (by simp)]; rfl⟩⟩
      go_wp2
      go_ret2
      exact ⟨_, rfl, hr, hbel⟩
theorem cOpenS (a : Option Addr) (n c : Nat) (l : List (Int × Int)) (t : Int) (w : World) (h : RdS w a n c l) :
    Calls Tryd.prog 42 #[.int .i64 t, .slice a n c] w fun e w' => ∃ x r, e = .returned (.tuple #[.int .u64 x, .int .i64 r]) ∧ Opn l n t x r ∧ Below w.heap.size w w' := by
  go_enter Tryd.func42, Tryd.ntmps42
  go_wp2_with fail
  refine (cCheckS _ _ _ _ _ _ h).mono ?_
  rintro e w1 ⟨r, rfl, hS, hb1⟩
  by_cases hr : r = 0
  · subst hr
    have HS : Hid (She l n t 0) := hS
    obtain ⟨t0, t4, hd, htn, hn9⟩ := hS.ok
    have HD : Hid (okk l n) := dis_okk hd
    clear hd hS
    go_wp2_with fail
    refine (cThroughOK _ _ _ _ _ (h.below hb1) (by omega) HD.out).mono ?_
    rintro e w2 ⟨S, g, rfl, hls, hbs, hvs, hr2, hb2⟩
    have HO : Hid (_ ∧ _) := opn_newton HS.out hls hbs hvs
    have hb12 := hb1.trans (hb2.mono hb1.size)
    have htl := tl_le S n
    obtain ⟨T, hT⟩ : ∃ T, T = tl S n := ⟨_, rfl⟩
    rw [← hT] at hr2 HO htl ⊢
    clear hls hbs hvs hb1 hb2 hT
    by_cases hlt : (T : Int) ≤ t + 1
    · have HN : Hid (Opn l n t (nm (ev (trm S) 0)) 0) := HO.out.1 hlt
      clear HO
      go_wp2_with fail
      refine (cEvalOK _ _ _ _ _ _ hr2 (by omega) (by omega) (by omega)).mono ?_
      rintro e w3 ⟨rfl, hb3⟩
      have hb13 := hb12.trans (hb3.mono hb12.size)
      clear hb3 hr2
      go_wp2
      go_ret2
      exact ⟨_, _, rfl, HN.out, hb13⟩
    · have HN : Hid (Opn l n t 0 6) := HO.out.2 (by omega)
      clear HO
      go_wp2
      go_ret2
      exact ⟨_, _, rfl, HN.out, hb12⟩
  · have hrb : (r != 0) = true := by rw [bne_iff_ne]; exact hr
    have HS : Hid (Opn l n t 0 r) := Or.inl ⟨hS, hr, rfl⟩
    clear hr hS
    go_wp2
    go_ret2
    exact ⟨_, _, rfl, HS.out, hb1⟩
end
end Go.Proofs.YtljlioglpaogdagDoor

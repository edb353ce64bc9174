/- poly.Norm, poly.Mul, poly.Eval. · poly.Through. · croftref.Through: LAGRANGE. · shamir.Open. -/
import Derived.Test.YtljlioglpaogdabToMxC
import Derived.Test.YtljlioglpaogdabToRefProdC
import Derived.Test.YtljlioglpaogdabToBadM
import Derived.Test.YtljlioglpaogdabToRefPolyC
import Derived.Deep.QuietTactic
import Derived.BigQuiet
import Derived.Test.YtljlioglpaogdabToCheckC
namespace Go.Proofs.Ytljlioglpaogdab
set_option linter.unusedVariables false
set_option maxRecDepth 100000
set_option maxHeartbeats 8000000
section
open Crm Go.RowKit
theorem cEvalOK (a : Option Addr) (n c : Nat) (xs : List Int) (x : Int) (w : World) (h : Rd w a n c xs) (hn : n ≤ 40) (hx0 : 0 ≤ x) (hx1 : x ≤ 18446744073709551615) :
    Calls Try.prog 72 #[.slice a n c, .int .u64 x] w fun e w' => e = .returned (.tuple #[.int .u64 (nm (ev xs x)), .int .i64 0]) ∧ Below w.heap.size w w' := by
  go_enter Try.func72, Try.ntmps72
  go_wp2_with (go_at_call 90; refine (cValue _ _ _ _ _ _ h hx0 hx1).mono ?_; rintro e w1 ⟨rfl, hbel⟩)
  go_ret2
  exact ⟨rfl, hbel⟩
/-- A row that a list's text lays. -/
theorem Blk.lit1 (w : World) (x : Int) : Blk (w.alloc (.cells #[.int .u64 x] 28)) w.heap.size [x] := heap_alloc_new w _
theorem Blk.lit2 (w : World) (x y : Int) : Blk (w.alloc (.cells #[.int .u64 x, .int .u64 y] 28)) w.heap.size [x, y] := heap_alloc_new w _

theorem cThroughOK (a : Option Addr) (n c : Nat) (l : List (Int × Int)) (w : World) (h : RdS w a n c l) (hn : n ≤ 40) (ho : okk l n) :
    Calls Try.prog 80 #[.slice a n c] w fun e w' => ∃ S g, e = .returned (.tuple #[.slice (some ⟨g, 0, none⟩) (tl S n) n, .int .i64 0]) ∧ S.length = n ∧ (∀ x ∈ S, 0 ≤ x ∧ x ≤ 2147483646) ∧
      (∀ j, j < n → nm (ev S (l.getD j (0, 0)).1) = nm (l.getD j (0, 0)).2) ∧ Rd w' (some ⟨g, 0, none⟩) (tl S n) n (trm S) ∧ Below w.heap.size w w' := by
  obtain ⟨i0, hi, hz0, hz1, hz2⟩ := info_parts info28
  have HO : Hid (okk l n) := ho
  clear ho
  have hlen := h.len
  go_enter Try.func80, Try.ntmps80
  go_wp2_with fail
  refine (cPlaced _ _ _ _ _ h (by omega)).mono ?_
  rintro e w1 ⟨r, rfl, hr, hb1⟩
  obtain rfl : r = true := hr.2 HO.out
  clear hr
  have hs1 := hb1.size
  go_wp2_with (at_make; refine wpList_make_full _ rfl _ _ 23 rfl w1.heap.size 28 i0 (.int .u64 0) 1 Try.underlying23 hi hz0 hz1 .i64 .i64 _ _ n rfl rfl (by omega) (by omega) (by rw [hz2]; omega) (by unfold maxLen; omega) (Nat.le_refl _) ?_; intro w2 hown hgrow)
  have hB2 : Blk w2 w1.heap.size (List.replicate n 0) := Blk.made hown
  have hb2 : Below w1.heap.size w1 w2 := (Below.refl _ _).grown hgrow (Nat.le_refl _) (by simp)
  have hb12 : Below w.heap.size w w2 := hb1.trans (hb2.mono hs1)
  clear hown hgrow
  obtain ⟨g1, hg1⟩ : ∃ g1, g1 = w1.heap.size := ⟨_, rfl⟩
  rw [← hg1] at hB2 hs1 ⊢
  clear hg1 hb2 hb1
  have hgl := hB2.lt
  go_loopw [5, 24] (fun z i wr => ∃ (k : Nat) (S Z : List Int) (gz : Nat), k ≤ n ∧ i = .int .i64 k ∧ z = .slice (some ⟨gz, 0, none⟩) (k + 1) (k + 1) ∧ Hid (NwI l n k S Z) ∧ Blk wr g1 S ∧ Blk wr gz Z ∧ gz ≠ g1 ∧ Below w.heap.size w wr) (fun _ i _ => n - (intOf i).toNat)
  case atStart => exact ⟨0, _, _, _, Nat.zero_le _, rfl, rfl, nw_start l n, hB2.below ((Below.refl _ _).alloc (Nat.le_refl _) _) hgl, Blk.lit1 _ _, by omega, hb12.alloc (hb12.size) _⟩
  case round =>
    obtain ⟨k, S, Z, gz, hk, rfl, rfl, HI, hbs, hbz, hne, hbel⟩ := hrel
    have hls := HI.out.ls
    have hlz := HI.out.lz
    have HBS : Hid (∀ x ∈ S, 0 ≤ x ∧ x ≤ 2147483646) := HI.out.bs
    have HBZ : Hid (∀ x ∈ Z, 0 ≤ x ∧ x ≤ 2147483646) := HI.out.bz
    by_cases hlt : k < n
    · obtain ⟨b, o, x, y, rfl, hbb, HX, HY, hx0, hx1, hy0, hy1, hcx, hcy⟩ := (h.below hbel).one hlt
      have hxo := (HO.out k hlt).1
      rw [HX.out] at hxo
      have hxo1 := hxo.1
      have hxo2 := hxo.2
      have HE : Hid (nm (nm (ev Z x)) ≠ 0) := by rw [nm_nm, ← HX.out]; exact HI.out.z1 k (Nat.le_refl _) hlt
      have hnS := nm_bd (ev S x)
      have hnZ := nm_bd (ev Z x)
      have hnL := nm_bd (y - nm (ev S x))
      have hiv := iv_bd (nm (ev Z x))
      have hnX := nm_bd (-x)
      have hbA : Below wr.heap.size wr (wr.alloc (.cells #[.int .i64 x, .int .u64 y] 73)) := (Below.refl _ _).alloc (Nat.le_refl _) _
      have hcA0 := cell_alloc0 wr (.int .i64 x) (.int .u64 y) 73
      have hcA1 := cell_alloc1 wr (.int .i64 x) (.int .u64 y) 73
      go_wp2
      generalize hW : wr.alloc (.cells #[.int .i64 x, .int .u64 y] 73) = W at *
      clear hW
      have hbelW : Below w.heap.size w W := hbel.trans (hbA.mono hbel.size)
      have hbsW := hbs.below hbA hbs.lt
      have hbzW := hbz.below hbA hbz.lt
      have rS : Rd W (some ⟨g1, 0, none⟩) n n S := hbsW.whole n hls.symm (by unfold maxLen; omega) (bd_u64 HBS.out)
      have rZ : Rd W (some ⟨gz, 0, none⟩) (k + 1) (k + 1) Z := hbzW.whole (k + 1) hlz.symm (by unfold maxLen; omega) (bd_u64 HBZ.out)
      clear hbA hbs hbz hbel hcx hcy
      go_quiet ((first | (go_at_call 90; exact Calls.quiet_of (cValueQ _ _ _ _ _ _ (rS.drewN _) (by omega) (by omega))) | (go_at_call 59; exact Calls.quiet_of_same (fSub _ _ _ (by omega) (by omega) (by omega) (by omega)))))
      go_wp2_with fail
      refine (cValueQ _ _ _ _ _ _ (rZ.drewN _) (by omega) (by omega)).mono ?_
      rintro e w3 ⟨rfl, q3, rfl⟩
      go_wp2_with fail
      refine (fInv1 _ _ (by omega) (by omega) HE.out).mono ?_
      rintro e w3 ⟨rfl, rfl⟩
      obtain ⟨t, HT⟩ : ∃ t, Hid (t = nm (nm (y - nm (ev S x)) * iv (nm (ev Z x)))) := ⟨_, rfl⟩
      have hnt : 0 ≤ t ∧ t ≤ 2147483646 := by rw [HT.out]; exact nm_bd _
      have HI2 : Hid (NwI l n (k + 1) (addAt S 0 Z t (k + 1)) (cvl Z [nm (-x), 1])) := nw_step HI.out hlt HO.out HX.out HY.out HT.out
      go_wp2_with (go_at_call 61; refine (fMul _ _ _ (by omega) (by omega) (by omega) (by omega)).mono ?_; rintro e w3 ⟨he, rfl⟩; rw [← HT.out] at he; subst he)
      refine (cAddTimes _ _ _ _ _ _ _ _ _ _ _ (by exact hbsW) (bd_u64 HBS.out) (rZ.drewN _) (fun x hx => by obtain rfl := Option.some.inj hx; exact hne) (by omega) (by omega) (by omega) (by omega) (by omega)).mono ?_
      rintro e w4 ⟨rfl, hb4, hg4⟩
      have hz4 : Blk w4 gz Z := Blk.grown (by exact hbzW) hg4 (by simpa using hne)
      have hbel4 : Below w.heap.size w w4 := below_grown (drewN_below hbelW _) hg4 hs1
      have hbB : Below w4.heap.size w4 (w4.alloc (.cells #[.int .u64 (nm (-x)), .int .u64 1] 28)) := (Below.refl _ _).alloc (Nat.le_refl _) _
      have hp4 := Blk.lit2 w4 (nm (-x)) 1
      clear hbelW hbsW hbzW rS rZ hg4 hcA0 hcA1
      go_wp2_with (go_at_call 59; refine (fSub _ _ _ (by omega) (by omega) (by omega) (by omega)).mono ?_; rintro e w3 ⟨rfl, hw⟩; have hw := hw.symm; subst hw)
      generalize hW5 : w4.alloc (.cells #[.int .u64 (nm (-x)), .int .u64 1] 28) = W5 at *
      have hs5 : w4.heap.size < W5.heap.size := hp4.lt
      clear hW5
      have hbel5 : Below w.heap.size w W5 := hbel4.trans (hbB.mono hbel4.size)
      have hz5 := hz4.below hbB hz4.lt
      have hb5 := hb4.below hbB hb4.lt
      have hl5 := hb5.lt
      have rZ5 : Rd W5 (some ⟨gz, 0, none⟩) (k + 1) (k + 1) Z := hz5.whole (k + 1) hlz.symm (by unfold maxLen; omega) (bd_u64 HBZ.out)
      have rP5 : Rd W5 (some ⟨w4.heap.size, 0, none⟩) 2 2 [nm (-x), 1] := hp4.whole 2 rfl (by unfold maxLen; omega) (by
        intro u hu
        simp only [List.mem_cons, List.not_mem_nil, or_false] at hu
        rcases hu with rfl | rfl <;> omega)
      refine (cProduct _ _ _ _ _ _ _ _ _ rZ5 rP5 (by omega) (by omega) (by omega) (by omega)).mono ?_
      rintro e w6 ⟨rfl, hb6, hbel6⟩
      have hs6 := hb5.below hbel6 hb5.lt
      have hbel7 := hbel5.trans (hbel6.mono hbel5.size)
      clear hbel6 hbel5 hz5 hb5 rZ5 rP5 hp4 hz4 hb4 hbB hbel4
      go_wp2
      go_roundw
      case rel => exact ⟨k + 1, _, _, _, by omega, by go_num, rfl, HI2, hs6, hb6, by omega, hbel7⟩
      case measure => simp [intOf]; omega
    · have hkn : k = n := by omega
      subst hkn
      have rS : Rd wr (some ⟨g1, 0, none⟩) k k S := hbs.whole k hls.symm (by unfold maxLen; omega) (bd_u64 HBS.out)
      go_wp2_with (go_at_call 101; refine (cTrim _ _ _ _ _ rS).mono ?_; rintro e w' ⟨rfl, hw⟩; have hw := hw.symm; subst hw)
      go_ret2
      refine ⟨S, g1, rfl, hls, HBS.out, HI.out.s, ?_, hbel⟩
      have ht := tl_le S k
      have := hbs.rd 0 (tl S k) k ht (by unfold maxLen; omega) (by omega) (bd_u64 HBS.out)
      rw [List.drop_zero] at this
      have e : trm S = S.take (tl S k) := by unfold trm; rw [hls]
      rw [e]
      exact this
theorem nil_rd' (w : World) : Rd w none 0 0 [] := ⟨rfl, Nat.le_refl _, Nat.zero_le _, by simp, fun _ => rfl, by simp⟩
theorem nrm_nil {xs : List Int} {n : Nat} (hl : xs.length = n) (h : tl (nz xs) n = 0) (x : Int) : nm (ev xs x) = 0 := by
  have h1 : (nrm xs).length = 0 := by rw [nrm_len, hl, h]
  rw [← nrm_ev, List.eq_nil_of_length_eq_zero h1]
  rfl

/-- The product, whatever is handed in. -/
theorem rProd (a : Option Addr) (n c : Nat) (xs : List Int) (b : Option Addr) (m d : Nat) (ys : List Int) (w : World) (h : Rd w a n c xs) (g : Rd w b m d ys) (hn : n ≤ 1000) (hm : m ≤ 1000) :
    Calls Try.prog 95 #[.slice a n c, .slice b m d] w fun e w' => ∃ p a' c', e = .returned (.slice a' p.length c') ∧ Rd w' a' p.length c' p ∧ p.length ≤ n + m - 1 ∧ (∀ x, nm (ev p x) = nm (ev xs x * ev ys x)) ∧ Below w.heap.size w w' := by
  have hn1 := tl_le (nz xs) n
  have hm1 := tl_le (nz ys) m
  by_cases hz : tl (nz xs) n = 0 ∨ tl (nz ys) m = 0
  · refine (rProduct0 _ _ _ _ _ _ _ _ _ h g hn hm hz).mono ?_
    rintro e w' ⟨rfl, hb⟩
    refine ⟨[], none, 0, rfl, nil_rd' _, Nat.zero_le _, fun x => ?_, hb⟩
    rcases hz with hz | hz
    · rw [nm_mul_congr (c := 0) (nrm_nil h.len hz x) rfl, Int.zero_mul]; rfl
    · rw [nm_mul_congr (d := 0) rfl (nrm_nil g.len hz x), Int.mul_zero]; rfl
  · refine (rProduct1 _ _ _ _ _ _ _ _ _ h g hn hm (by omega) (by omega)).mono ?_
    rintro e w' ⟨a', c', rfl, hr, hb, _⟩
    have hl := hr.len
    refine ⟨cvl (nrm xs) (nrm ys), a', c', by rw [hl], by rw [hl]; exact hr, by rw [hl]; omega, fun x => ?_, hb⟩
    rw [cvl_ev]
    exact nm_mul_congr (nrm_ev _ _) (nrm_ev _ _)

/-- What the inner round keeps: the value at its own share, 0 at those that came. -/
structure LgI (l : List (Int × Int)) (i m : Nat) (q : List Int) : Prop where
  le : q.length ≤ if i < m then m else m + 1
  own : nm (ev q (l.getD i (0, 0)).1) = nm (l.getD i (0, 0)).2
  zero : ∀ j, j < m → j ≠ i → nm (ev q (l.getD j (0, 0)).1) = 0
theorem lg_start (l : List (Int × Int)) (i : Nat) : LgI l i 0 [(l.getD i (0, 0)).2] :=
  ⟨by simp, by rw [ev, ev, Int.mul_zero, Int.add_zero], fun j hj => by omega⟩
theorem lg_skip {l : List (Int × Int)} {i : Nat} {q : List Int} (h : LgI l i i q) : LgI l i (i + 1) q :=
  ⟨by have := h.le; simp at this ⊢; omega, h.own, fun j hj hji => h.zero j (by omega) hji⟩
theorem lg_step {l : List (Int × Int)} {n i m : Nat} {q p : List Int} {x z u : Int} (ho : okk l n) (hi : i < n) (hm : m < n) (h : LgI l i m q) (hne : m ≠ i) (hx : (l.getD i (0, 0)).1 = x) (hz : (l.getD m (0, 0)).1 = z)
    (hu : u = iv (nm (x + nm (-z)))) (hl : p.length ≤ q.length + 2 - 1) (hp : ∀ y, nm (ev p y) = nm (ev q y * ev [nm (nm (-z) * u), u] y)) : LgI l i (m + 1) p := by
  have hpp : ∀ y, nm (ev p y) = nm (ev q y * ((y - z) * u)) := fun y => by
    rw [hp]
    refine nm_mul_congr rfl ?_
    rw [ev_pair, nm_addl, ← nm_addl, nm_mull, nm_addl, Int.sub_mul, Int.neg_mul]
    congr 1; omega
  refine ⟨?_, ?_, ?_⟩
  · have := h.le
    split at this <;> split <;> omega
  · rw [hpp, hx]
    have h1 : nm ((x - z) * u) = 1 := by
      have e : nm (x + nm (-z)) = nm (x - z) := by rw [nm_addr]; congr 1
      rw [hu, iv_nm, ← nm_mull, ← e, nm_mull]
      have h2 : nm (x + nm (-z)) ≠ 0 := by rw [e, ← hx, ← hz]; exact ats_apart ho hi hm (fun e => hne e.symm)
      rw [mul_iv h2]
    rw [nm_mul_congr (c := ev q x) (d := 1) rfl (by rw [h1]; rfl), Int.mul_one, ← hx]
    exact h.own
  · intro j hj hji
    rw [hpp]
    by_cases e : j = m
    · subst e
      rw [hz, Int.sub_self, Int.zero_mul, Int.mul_zero]; rfl
    · rw [nm_mul_congr (c := 0) (h.zero j (by omega) hji) rfl, Int.zero_mul]; rfl

/-- What the outer round keeps: the values of the shares that came, 0 at the others. -/
structure LoI (l : List (Int × Int)) (n k : Nat) (p : List Int) : Prop where
  nml : Nml p
  le : p.length ≤ n
  val : ∀ j, j < n → nm (ev p (l.getD j (0, 0)).1) = if j < k then nm (l.getD j (0, 0)).2 else 0
theorem lo_start (l : List (Int × Int)) (n : Nat) : LoI l n 0 [] := ⟨⟨fun x hx => (by cases hx), fun h => (by simp at h)⟩, Nat.zero_le _, fun j _ => by rw [if_neg (by omega)]; rfl⟩
theorem lo_step {l : List (Int × Int)} {n k : Nat} {p q : List Int} (h : LoI l n k p) (hk : k < n) (hq : LgI l k n q) : LoI l n (k + 1) (nrm (sml p q)) := by
  have hql : q.length ≤ n := by have := hq.le; rw [if_pos hk] at this; exact this
  refine ⟨nrm_Nml _, ?_, fun j hj => ?_⟩
  · have := nrm_le (sml p q)
    rw [sml_len] at this
    have := h.le
    omega
  · rw [nrm_ev, sml_ev]
    by_cases e : j = k
    · subst e
      have h1 := h.val j hj
      rw [if_neg (by omega)] at h1
      rw [if_pos (by omega), nm_add_congr (c := 0) (d := (l.getD j (0, 0)).2) h1 hq.own, Int.zero_add]
    · have h1 := h.val j hj
      rw [nm_add_congr (c := ev p (l.getD j (0, 0)).1) (d := 0) rfl (hq.zero j hj e), Int.add_zero, h1]
      by_cases h2 : j < k
      · rw [if_pos h2, if_pos (by omega)]
      · rw [if_neg h2, if_neg (by omega)]

theorem rThroughO (a : Option Addr) (n c : Nat) (l : List (Int × Int)) (w : World) (h : RdS w a n c l) (hn : n ≤ 40) (ho : okk l n) :
    Calls Try.prog 76 #[.slice a n c] w fun e w' => ∃ p a' c', e = .returned (.slice a' p.length c') ∧ w'.ownsRow w.heap.size 28 1 (.slice a' p.length c') p.length (p.map (Value.int .u64)) ∧ LoI l n n p ∧ Below w.heap.size w w' := by
  have HO : Hid (okk l n) := ho
  clear ho
  have hlen := h.len
  go_enter Try.func76, Try.ntmps76
  go_wp2
  go_loopw [3, 4] (fun v i wr => ∃ (k : Nat) (p : List Int) (ap : Option Addr) (N cp : Nat), k ≤ n ∧ i = .int .i64 k ∧ v = .slice ap N cp ∧ wr.ownsRow w.heap.size 28 1 (.slice ap N cp) N (p.map (Value.int .u64)) ∧ Hid (LoI l n k p) ∧ Below w.heap.size w wr) (fun _ i _ => n - (intOf i).toNat)
  case atStart => exact ⟨0, [], none, 0, 0, Nat.zero_le _, rfl, rfl, World.ownsRow_nil _ _ _ _, lo_start l n, Below.refl _ _⟩
  case round =>
    obtain ⟨k, p, ap, N, cp, hk, rfl, rfl, hop, HP, hbel⟩ := hrel
    have hrp : Rd wr ap N cp p := by
      obtain ⟨a2, c2, e2, hr, _⟩ := Rd.own hop (bd_u64 HP.out.nml.bd)
      simp only [Value.slice.injEq, true_and] at e2
      obtain ⟨rfl, rfl⟩ := e2
      exact hr
    obtain ⟨wo, hwo⟩ : ∃ wo, wo = wr := ⟨_, rfl⟩
    subst hwo
    have hs1 := hbel.size
    have hNp := hrp.len
    have hNn : N ≤ n := by have := HP.out.le; omega
    by_cases hlt : k < n
    · obtain ⟨b, o, x, y, rfl, hbb, HX, HY, hx0, hx1, hy0, hy1, hcx, hcy⟩ := (h.below hbel).one hlt
      have hxo := (HO.out k hlt).1
      rw [HX.out] at hxo
      have hxo1 := hxo.1
      have hxo2 := hxo.2
      have hbA : Below wo.heap.size wo (wo.alloc (.cells #[.int .u64 y] 28)) := (Below.refl _ _).alloc (Nat.le_refl _) _
      have hlA := Blk.lit1 wo y
      have rA : Rd (wo.alloc (.cells #[.int .u64 y] 28)) (some ⟨wo.heap.size, 0, none⟩) 1 1 [y] := hlA.whole 1 rfl (by unfold maxLen; omega) (fun u hu => by rw [List.mem_singleton.1 hu]; exact ⟨hy0, hy1⟩)
      have HS : Hid (LgI l k 0 [y]) := by have := lg_start l k; rw [HY.out] at this; exact this
      go_wp2
      go_loopw [5, 6] (fun v i wr => ∃ (m : Nat) (q : List Int) (aq : Option Addr) (M cq : Nat), m ≤ n ∧ i = .int .i64 m ∧ v = .slice aq M cq ∧ Rd wr aq M cq q ∧ Hid (LgI l k m q) ∧ Below wo.heap.size wo wr) (fun _ i _ => n - (intOf i).toNat)
      case atStart => exact ⟨0, _, _, _, _, Nat.zero_le _, rfl, rfl, rA, HS, hbA⟩
      case round =>
        clear hbA hlA rA HS
        obtain ⟨m, q, aq, M, cq, hm, rfl, rfl, hrq, HQ, hbq⟩ := hrel
        have hbw : Below w.heap.size w wr := hbel.trans (hbq.mono hs1)
        have hMq := hrq.len
        have hMn : M ≤ n + 1 := by have := HQ.out.le; split at this <;> omega
        by_cases hmn : m < n
        · by_cases hmk : m = k
          · subst hmk
            have HQ2 : Hid (LgI l m (m + 1) q) := lg_skip HQ.out
            go_wp2
            go_roundw
            case rel => exact ⟨m + 1, q, aq, M, cq, by omega, by go_num, rfl, hrq, HQ2, hbq⟩
            case measure => simp [intOf]; omega
          · have hmb : ((m : Int) == (k : Int)) = false := by rw [beq_eq_false_iff_ne]; omega
            obtain ⟨b', o', z, y', e', _, HZ, _, hz0, hz1, _, _, hcz, _⟩ := (h.below hbw).one hmn
            simp only [Option.some.injEq, Addr.mk.injEq, and_true] at e'
            obtain ⟨rfl, rfl⟩ := e'
            obtain ⟨b'', o'', x'', y'', e'', _, HX'', _, _, _, _, _, hcx'', _⟩ := (h.below hbw).one hlt
            simp only [Option.some.injEq, Addr.mk.injEq, and_true] at e''
            obtain ⟨rfl, rfl⟩ := e''
            have e3 : x'' = x := HX''.out.symm.trans HX.out
            subst e3
            have hzo := (HO.out m hmn).1
            rw [HZ.out] at hzo
            have hzo1 := hzo.1
            have hzo2 := hzo.2
            have hnz := nm_bd (-z)
            have hnd := nm_bd (x'' + nm (-z))
            have HD : Hid (nm (nm (x'' + nm (-z))) ≠ 0) := by
              have := ats_apart HO.out hlt hmn (fun e => hmk e.symm)
              rw [HX.out, HZ.out] at this
              unfold Hid
              rw [nm_nm, nm_addr]
              exact this
            obtain ⟨u, HU⟩ : ∃ u, Hid (u = iv (nm (x'' + nm (-z)))) := ⟨_, rfl⟩
            have hub : 0 ≤ u ∧ u ≤ 2147483646 := by rw [HU.out]; exact iv_bd _
            have hnu := nm_bd (nm (-z) * u)
            go_wp2
            go_region
            have hbd := hbq.drew
            have hbwd := hbw.drew
            have hrqd := hrq.drew
            have hbB : Below wr.drew.heap.size wr.drew (wr.drew.alloc (.cells #[.int .u64 (nm (nm (-z) * u)), .int .u64 u] 28)) := (Below.refl _ _).alloc (Nat.le_refl _) _
            have hlB := Blk.lit2 wr.drew (nm (nm (-z) * u)) u
            generalize wr.drew = wd at *
            go_wp2_with (first | (go_at_call 94; refine (rNeg _ _ (by omega) (by omega)).mono ?_; rintro e w3 ⟨rfl, hw⟩; have hw := hw.symm; subst hw) | (go_at_call 46; refine (rAdd _ _ _ (by omega) (by omega) (by omega) (by omega)).mono ?_; rintro e w3 ⟨rfl, hw⟩; have hw := hw.symm; subst hw) | (go_at_call 93; refine (rInv _ _ (by omega) (by omega) HD.out).mono ?_; rintro e w3 ⟨he, hw⟩; have hw := hw.symm; subst hw; rw [← HU.out] at he; subst he) | (go_at_call 47; refine (rMul _ _ _ (by omega) (by omega) (by omega) (by omega)).mono ?_; rintro e w3 ⟨rfl, hw⟩; have hw := hw.symm; subst hw) | fail)
            have rB := hlB.whole 2 rfl (by unfold maxLen; omega) (by
              intro t ht
              simp only [List.mem_cons, List.not_mem_nil, or_false] at ht
              rcases ht with rfl | rfl <;> omega)
            have rqB := hrqd.below hbB
            have hbel5 := hbd.trans (hbB.mono hbd.size)
            refine (rProd _ _ _ _ _ _ _ _ _ rqB rB (by omega) (by omega)).mono ?_
            rintro e w6 ⟨q', a6, c6, rfl, hr6, hl6, hv6, hb6⟩
            have HQ2 : Hid (LgI l k (m + 1) q') := lg_step HO.out hlt hmn HQ.out hmk HX.out HZ.out HU.out (by omega) hv6
            have hbel6 := hbel5.trans (hb6.mono hbel5.size)
            obtain ⟨rl, hrl⟩ : ∃ rl, rl = q'.length := ⟨_, rfl⟩
            rw [← hrl] at hr6 ⊢
            clear hrl hb6 hv6 hbel5 rqB rB hlB hbB hrqd hbwd hbd hl6
            go_wp2
            go_roundw
            case rel => exact ⟨m + 1, q', a6, rl, c6, by omega, by go_num, rfl, hr6, HQ2, hbel6⟩
            case measure => simp [intOf]; omega
        · have hmn' : m = n := by omega
          subst hmn'
          have HP2 : Hid (LoI l m (k + 1) (nrm (sml p q))) := lo_step HP.out hlt HQ.out
          go_wp2_with fail
          refine (rSumO _ _ _ _ _ _ _ _ _ (hrp.below hbq) hrq (by omega) (by omega)).mono ?_
          rintro e w5 ⟨a5, c5, rfl, hr5, hb5⟩
          have hr5 := own_base hr5 hbw.size
          have hb6 := hbw.trans (hb5.mono hbw.size)
          generalize nrm (sml p q) = R at *
          obtain ⟨rl, hrl⟩ : ∃ rl, rl = R.length := ⟨_, rfl⟩
          rw [← hrl] at hr5 ⊢
          clear hrl hb5
          go_wp2
          go_roundw
          case rel => exact ⟨k + 1, R, a5, rl, c5, by omega, by go_num, rfl, hr5, HP2, hb6⟩
          case measure => simp [intOf]; omega
    · have hkn : k = n := by omega
      subst hkn
      go_wp2
      go_ret
      refine ⟨p, ap, cp, ?_, ?_, HP.out, hbel⟩
      · rw [hNp]; rfl
      · rw [hNp]; exact hop
theorem cOpenS (a : Option Addr) (n c : Nat) (l : List (Int × Int)) (t : Int) (w : World) (h : RdS w a n c l) :
    Calls Try.prog 53 #[.int .i64 t, .slice a n c] w fun e w' => ∃ x r, e = .returned (.tuple #[.int .u64 x, .int .i64 r]) ∧ Opn l n t x r ∧ Below w.heap.size w w' := by
  go_enter Try.func53, Try.ntmps53
  go_wp2_with fail
  refine (cCheckS _ _ _ _ _ _ h).mono ?_
  rintro e w1 ⟨r, rfl, hS, hb1⟩
  by_cases hr : r = 0
  · subst hr
    have HS : Hid (She l n t 0) := hS
    obtain ⟨t0, t4, hd, htn, hn9⟩ := hS.ok
    have HD : Hid (okk l n) := dis_okk hd
    clear hd hS
    go_wp2_with fail
    refine (cThroughOK _ _ _ _ _ (h.below hb1) (by omega) HD.out).mono ?_
    rintro e w2 ⟨S, g, rfl, hls, hbs, hvs, hr2, hb2⟩
    have HO : Hid (_ ∧ _) := opn_newton HS.out hls hbs hvs
    have hb12 := hb1.trans (hb2.mono hb1.size)
    have htl := tl_le S n
    obtain ⟨T, hT⟩ : ∃ T, T = tl S n := ⟨_, rfl⟩
    rw [← hT] at hr2 HO htl ⊢
    clear hls hbs hvs hb1 hb2 hT
    by_cases hlt : (T : Int) ≤ t + 1
    · have HN : Hid (Opn l n t (nm (ev (trm S) 0)) 0) := HO.out.1 hlt
      clear HO
      go_wp2_with fail
      refine (cEvalOK _ _ _ _ _ _ hr2 (by omega) (by omega) (by omega)).mono ?_
      rintro e w3 ⟨rfl, hb3⟩
      have hb13 := hb12.trans (hb3.mono hb12.size)
      clear hb3 hr2
      go_wp2
      go_ret2
      exact ⟨_, _, rfl, HN.out, hb13⟩
    · have HN : Hid (Opn l n t 0 6) := HO.out.2 (by omega)
      clear HO
      go_wp2
      go_ret2
      exact ⟨_, _, rfl, HN.out, hb12⟩
  · have hrb : (r != 0) = true := by rw [bne_iff_ne]; exact hr
    have HS : Hid (Opn l n t 0 r) := Or.inl ⟨hS, hr, rfl⟩
    clear hr hS
    go_wp2
    go_ret2
    exact ⟨_, _, rfl, HS.out, hb1⟩
end
end Go.Proofs.Ytljlioglpaogdab

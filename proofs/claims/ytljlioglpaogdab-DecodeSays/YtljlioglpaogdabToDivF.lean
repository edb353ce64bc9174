/- poly.Norm, poly.Mul, poly.Eval. · poly.Through. · croftref.Through: LAGRANGE. · poly.divide, poly.Div. · poly.Div. -/
import Derived.Test.YtljlioglpaogdabToRestC
import Derived.Test.YtljlioglpaogdabToJoinC
import Derived.Test.YtljlioglpaogdabToEqIC
import Derived.Test.YtljlioglpaogdabToRows2
import Derived.Deep.QuietTactic
import Derived.BigQuiet
import Derived.Test.YtljlioglpaogdabToGaussM
import Derived.Deep.RegionWith
namespace Go.Proofs.Ytljlioglpaogdab
set_option linter.unusedVariables false
set_option maxRecDepth 100000
set_option maxHeartbeats 8000000
section
open Crm Go.RowKit
/-- What normal has made reads as the normal polynomial. -/
theorem Blk.nrm {w : World} {g n : Nat} {xs : List Int} (h : Blk w g (nz xs)) (hl : xs.length = n) (hn : n ≤ 1000000) : Rd w (some ⟨g, 0, none⟩) (tl (nz xs) n) n (Crm.nrm xs) := by
  have ht := tl_le (nz xs) n
  have := h.rd 0 (tl (nz xs) n) n ht (by unfold maxLen; omega) (by rw [nz_len]; omega) (nz_bd xs)
  rw [List.drop_zero] at this
  have e : Crm.nrm xs = (nz xs).take (tl (nz xs) n) := by unfold Crm.nrm trm; rw [nz_len, hl]
  rw [e]
  exact this

theorem cEvalOK (a : Option Addr) (n c : Nat) (xs : List Int) (x : Int) (w : World) (h : Rd w a n c xs) (hn : n ≤ 40) (hx0 : 0 ≤ x) (hx1 : x ≤ 18446744073709551615) :
    Calls Try.prog 72 #[.slice a n c, .int .u64 x] w fun e w' => e = .returned (.tuple #[.int .u64 (nm (ev xs x)), .int .i64 0]) ∧ Below w.heap.size w w' := by
  go_enter Try.func72, Try.ntmps72
  go_wp2_with (go_at_call 90; refine (cValue _ _ _ _ _ _ h hx0 hx1).mono ?_; rintro e w1 ⟨rfl, hbel⟩)
  go_ret2
  exact ⟨rfl, hbel⟩
/-- A row that a list's text lays. -/
theorem Blk.lit1 (w : World) (x : Int) : Blk (w.alloc (.cells #[.int .u64 x] 28)) w.heap.size [x] := heap_alloc_new w _
theorem Blk.lit2 (w : World) (x y : Int) : Blk (w.alloc (.cells #[.int .u64 x, .int .u64 y] 28)) w.heap.size [x, y] := heap_alloc_new w _
theorem nil_rd' (w : World) : Rd w none 0 0 [] := ⟨rfl, Nat.le_refl _, Nat.zero_le _, by simp, fun _ => rfl, by simp⟩
theorem nrm_nil {xs : List Int} {n : Nat} (hl : xs.length = n) (h : tl (nz xs) n = 0) (x : Int) : nm (ev xs x) = 0 := by
  have h1 : (nrm xs).length = 0 := by rw [nrm_len, hl, h]
  rw [← nrm_ev, List.eq_nil_of_length_eq_zero h1]
  rfl

/-- The product, whatever is handed in. -/
theorem rProd (a : Option Addr) (n c : Nat) (xs : List Int) (b : Option Addr) (m d : Nat) (ys : List Int) (w : World) (h : Rd w a n c xs) (g : Rd w b m d ys) (hn : n ≤ 1000) (hm : m ≤ 1000) :
    Calls Try.prog 95 #[.slice a n c, .slice b m d] w fun e w' => ∃ p a' c', e = .returned (.slice a' p.length c') ∧ Rd w' a' p.length c' p ∧ p.length ≤ n + m - 1 ∧ (∀ x, nm (ev p x) = nm (ev xs x * ev ys x)) ∧ Below w.heap.size w w' := by
  have hn1 := tl_le (nz xs) n
  have hm1 := tl_le (nz ys) m
  by_cases hz : tl (nz xs) n = 0 ∨ tl (nz ys) m = 0
  · refine (rProduct0 _ _ _ _ _ _ _ _ _ h g hn hm hz).mono ?_
    rintro e w' ⟨rfl, hb⟩
    refine ⟨[], none, 0, rfl, nil_rd' _, Nat.zero_le _, fun x => ?_, hb⟩
    rcases hz with hz | hz
    · rw [nm_mul_congr (c := 0) (nrm_nil h.len hz x) rfl, Int.zero_mul]; rfl
    · rw [nm_mul_congr (d := 0) rfl (nrm_nil g.len hz x), Int.mul_zero]; rfl
  · refine (rProduct1 _ _ _ _ _ _ _ _ _ h g hn hm (by omega) (by omega)).mono ?_
    rintro e w' ⟨a', c', rfl, hr, hb, _⟩
    have hl := hr.len
    refine ⟨cvl (nrm xs) (nrm ys), a', c', by rw [hl], by rw [hl]; exact hr, by rw [hl]; omega, fun x => ?_, hb⟩
    rw [cvl_ev]
    exact nm_mul_congr (nrm_ev _ _) (nrm_ev _ _)

/-- What the inner round keeps: the value at its own share, 0 at those that came. -/
structure LgI (l : List (Int × Int)) (i m : Nat) (q : List Int) : Prop where
  le : q.length ≤ if i < m then m else m + 1
  own : nm (ev q (l.getD i (0, 0)).1) = nm (l.getD i (0, 0)).2
  zero : ∀ j, j < m → j ≠ i → nm (ev q (l.getD j (0, 0)).1) = 0
theorem lg_start (l : List (Int × Int)) (i : Nat) : LgI l i 0 [(l.getD i (0, 0)).2] :=
  ⟨by simp, by rw [ev, ev, Int.mul_zero, Int.add_zero], fun j hj => by omega⟩
theorem lg_skip {l : List (Int × Int)} {i : Nat} {q : List Int} (h : LgI l i i q) : LgI l i (i + 1) q :=
  ⟨by have := h.le; simp at this ⊢; omega, h.own, fun j hj hji => h.zero j (by omega) hji⟩
theorem lg_step {l : List (Int × Int)} {n i m : Nat} {q p : List Int} {x z u : Int} (ho : okk l n) (hi : i < n) (hm : m < n) (h : LgI l i m q) (hne : m ≠ i) (hx : (l.getD i (0, 0)).1 = x) (hz : (l.getD m (0, 0)).1 = z)
    (hu : u = iv (nm (x + nm (-z)))) (hl : p.length ≤ q.length + 2 - 1) (hp : ∀ y, nm (ev p y) = nm (ev q y * ev [nm (nm (-z) * u), u] y)) : LgI l i (m + 1) p := by
  have hpp : ∀ y, nm (ev p y) = nm (ev q y * ((y - z) * u)) := fun y => by
    rw [hp]
    refine nm_mul_congr rfl ?_
    rw [ev_pair, nm_addl, ← nm_addl, nm_mull, nm_addl, Int.sub_mul, Int.neg_mul]
    congr 1; omega
  refine ⟨?_, ?_, ?_⟩
  · have := h.le
    split at this <;> split <;> omega
  · rw [hpp, hx]
    have h1 : nm ((x - z) * u) = 1 := by
      have e : nm (x + nm (-z)) = nm (x - z) := by rw [nm_addr]; congr 1
      rw [hu, iv_nm, ← nm_mull, ← e, nm_mull]
      have h2 : nm (x + nm (-z)) ≠ 0 := by rw [e, ← hx, ← hz]; exact ats_apart ho hi hm (fun e => hne e.symm)
      rw [mul_iv h2]
    rw [nm_mul_congr (c := ev q x) (d := 1) rfl (by rw [h1]; rfl), Int.mul_one, ← hx]
    exact h.own
  · intro j hj hji
    rw [hpp]
    by_cases e : j = m
    · subst e
      rw [hz, Int.sub_self, Int.zero_mul, Int.mul_zero]; rfl
    · rw [nm_mul_congr (c := 0) (h.zero j (by omega) hji) rfl, Int.zero_mul]; rfl

/-- What the outer round keeps: the values of the shares that came, 0 at the others. -/
structure LoI (l : List (Int × Int)) (n k : Nat) (p : List Int) : Prop where
  nml : Nml p
  le : p.length ≤ n
  val : ∀ j, j < n → nm (ev p (l.getD j (0, 0)).1) = if j < k then nm (l.getD j (0, 0)).2 else 0
theorem lo_start (l : List (Int × Int)) (n : Nat) : LoI l n 0 [] := ⟨⟨fun x hx => (by cases hx), fun h => (by simp at h)⟩, Nat.zero_le _, fun j _ => by rw [if_neg (by omega)]; rfl⟩
theorem lo_step {l : List (Int × Int)} {n k : Nat} {p q : List Int} (h : LoI l n k p) (hk : k < n) (hq : LgI l k n q) : LoI l n (k + 1) (nrm (sml p q)) := by
  have hql : q.length ≤ n := by have := hq.le; rw [if_pos hk] at this; exact this
  refine ⟨nrm_Nml _, ?_, fun j hj => ?_⟩
  · have := nrm_le (sml p q)
    rw [sml_len] at this
    have := h.le
    omega
  · rw [nrm_ev, sml_ev]
    by_cases e : j = k
    · subst e
      have h1 := h.val j hj
      rw [if_neg (by omega)] at h1
      rw [if_pos (by omega), nm_add_congr (c := 0) (d := (l.getD j (0, 0)).2) h1 hq.own, Int.zero_add]
    · have h1 := h.val j hj
      rw [nm_add_congr (c := ev p (l.getD j (0, 0)).1) (d := 0) rfl (hq.zero j hj e), Int.add_zero, h1]
      by_cases h2 : j < k
      · rw [if_pos h2, if_pos (by omega)]
      · rw [if_neg h2, if_neg (by omega)]

theorem rThroughO (a : Option Addr) (n c : Nat) (l : List (Int × Int)) (w : World) (h : RdS w a n c l) (hn : n ≤ 40) (ho : okk l n) :
    Calls Try.prog 76 #[.slice a n c] w fun e w' => ∃ p a' c', e = .returned (.slice a' p.length c') ∧ w'.ownsRow w.heap.size 28 1 (.slice a' p.length c') p.length (p.map (Value.int .u64)) ∧ LoI l n n p ∧ Below w.heap.size w w' := by
  have HO : Hid (okk l n) := ho
  clear ho
  have hlen := h.len
  go_enter Try.func76, Try.ntmps76
  go_wp2
  go_loopw [3, 4] (fun v i wr => ∃ (k : Nat) (p : List Int) (ap : Option Addr) (N cp : Nat), k ≤ n ∧ i = .int .i64 k ∧ v = .slice ap N cp ∧ wr.ownsRow w.heap.size 28 1 (.slice ap N cp) N (p.map (Value.int .u64)) ∧ Hid (LoI l n k p) ∧ Below w.heap.size w wr) (fun _ i _ => n - (intOf i).toNat)
  case atStart => exact ⟨0, [], none, 0, 0, Nat.zero_le _, rfl, rfl, World.ownsRow_nil _ _ _ _, lo_start l n, Below.refl _ _⟩
  case round =>
    obtain ⟨k, p, ap, N, cp, hk, rfl, rfl, hop, HP, hbel⟩ := hrel
    have hrp : Rd wr ap N cp p := by
      obtain ⟨a2, c2, e2, hr, _⟩ := Rd.own hop (bd_u64 HP.out.nml.bd)
      simp only [Value.slice.injEq, true_and] at e2
      obtain ⟨rfl, rfl⟩ := e2
      exact hr
    obtain ⟨wo, hwo⟩ : ∃ wo, wo = wr := ⟨_, rfl⟩
    subst hwo
    have hs1 := hbel.size
    have hNp := hrp.len
    have hNn : N ≤ n := by have := HP.out.le; omega
    by_cases hlt : k < n
    · obtain ⟨b, o, x, y, rfl, hbb, HX, HY, hx0, hx1, hy0, hy1, hcx, hcy⟩ := (h.below hbel).one hlt
      have hxo := (HO.out k hlt).1
      rw [HX.out] at hxo
      have hxo1 := hxo.1
      have hxo2 := hxo.2
      have hbA : Below wo.heap.size wo (wo.alloc (.cells #[.int .u64 y] 28)) := (Below.refl _ _).alloc (Nat.le_refl _) _
      have hlA := Blk.lit1 wo y
      have rA : Rd (wo.alloc (.cells #[.int .u64 y] 28)) (some ⟨wo.heap.size, 0, none⟩) 1 1 [y] := hlA.whole 1 rfl (by unfold maxLen; omega) (fun u hu => by rw [List.mem_singleton.1 hu]; exact ⟨hy0, hy1⟩)
      have HS : Hid (LgI l k 0 [y]) := by have := lg_start l k; rw [HY.out] at this; exact this
      go_wp2
      go_loopw [5, 6] (fun v i wr => ∃ (m : Nat) (q : List Int) (aq : Option Addr) (M cq : Nat), m ≤ n ∧ i = .int .i64 m ∧ v = .slice aq M cq ∧ Rd wr aq M cq q ∧ Hid (LgI l k m q) ∧ Below wo.heap.size wo wr) (fun _ i _ => n - (intOf i).toNat)
      case atStart => exact ⟨0, _, _, _, _, Nat.zero_le _, rfl, rfl, rA, HS, hbA⟩
      case round =>
        clear hbA hlA rA HS
        obtain ⟨m, q, aq, M, cq, hm, rfl, rfl, hrq, HQ, hbq⟩ := hrel
        have hbw : Below w.heap.size w wr := hbel.trans (hbq.mono hs1)
        have hMq := hrq.len
        have hMn : M ≤ n + 1 := by have := HQ.out.le; split at this <;> omega
        by_cases hmn : m < n
        · by_cases hmk : m = k
          · subst hmk
            have HQ2 : Hid (LgI l m (m + 1) q) := lg_skip HQ.out
            go_wp2
            go_roundw
            case rel => exact ⟨m + 1, q, aq, M, cq, by omega, by go_num, rfl, hrq, HQ2, hbq⟩
            case measure => simp [intOf]; omega
          · have hmb : ((m : Int) == (k : Int)) = false := by rw [beq_eq_false_iff_ne]; omega
            obtain ⟨b', o', z, y', e', _, HZ, _, hz0, hz1, _, _, hcz, _⟩ := (h.below hbw).one hmn
            simp only [Option.some.injEq, Addr.mk.injEq, and_true] at e'
            obtain ⟨rfl, rfl⟩ := e'
            obtain ⟨b'', o'', x'', y'', e'', _, HX'', _, _, _, _, _, hcx'', _⟩ := (h.below hbw).one hlt
            simp only [Option.some.injEq, Addr.mk.injEq, and_true] at e''
            obtain ⟨rfl, rfl⟩ := e''
            have e3 : x'' = x := HX''.out.symm.trans HX.out
            subst e3
            have hzo := (HO.out m hmn).1
            rw [HZ.out] at hzo
            have hzo1 := hzo.1
            have hzo2 := hzo.2
            have hnz := nm_bd (-z)
            have hnd := nm_bd (x'' + nm (-z))
            have HD : Hid (nm (nm (x'' + nm (-z))) ≠ 0) := by
              have := ats_apart HO.out hlt hmn (fun e => hmk e.symm)
              rw [HX.out, HZ.out] at this
              unfold Hid
              rw [nm_nm, nm_addr]
              exact this
            obtain ⟨u, HU⟩ : ∃ u, Hid (u = iv (nm (x'' + nm (-z)))) := ⟨_, rfl⟩
            have hub : 0 ≤ u ∧ u ≤ 2147483646 := by rw [HU.out]; exact iv_bd _
            have hnu := nm_bd (nm (-z) * u)
            go_wp2
            go_region
            have hbd := hbq.drew
            have hbwd := hbw.drew
            have hrqd := hrq.drew
            have hbB : Below wr.drew.heap.size wr.drew (wr.drew.alloc (.cells #[.int .u64 (nm (nm (-z) * u)), .int .u64 u] 28)) := (Below.refl _ _).alloc (Nat.le_refl _) _
            have hlB := Blk.lit2 wr.drew (nm (nm (-z) * u)) u
            generalize wr.drew = wd at *
            go_wp2_with (first | (go_at_call 94; refine (rNeg _ _ (by omega) (by omega)).mono ?_; rintro e w3 ⟨rfl, hw⟩; have hw := hw.symm; subst hw) | (go_at_call 46; refine (rAdd _ _ _ (by omega) (by omega) (by omega) (by omega)).mono ?_; rintro e w3 ⟨rfl, hw⟩; have hw := hw.symm; subst hw) | (go_at_call 93; refine (rInv _ _ (by omega) (by omega) HD.out).mono ?_; rintro e w3 ⟨he, hw⟩; have hw := hw.symm; subst hw; rw [← HU.out] at he; subst he) | (go_at_call 47; refine (rMul _ _ _ (by omega) (by omega) (by omega) (by omega)).mono ?_; rintro e w3 ⟨rfl, hw⟩; have hw := hw.symm; subst hw) | fail)
            have rB := hlB.whole 2 rfl (by unfold maxLen; omega) (by
              intro t ht
              simp only [List.mem_cons, List.not_mem_nil, or_false] at ht
              rcases ht with rfl | rfl <;> omega)
            have rqB := hrqd.below hbB
            have hbel5 := hbd.trans (hbB.mono hbd.size)
            refine (rProd _ _ _ _ _ _ _ _ _ rqB rB (by omega) (by omega)).mono ?_
            rintro e w6 ⟨q', a6, c6, rfl, hr6, hl6, hv6, hb6⟩
            have HQ2 : Hid (LgI l k (m + 1) q') := lg_step HO.out hlt hmn HQ.out hmk HX.out HZ.out HU.out (by omega) hv6
            have hbel6 := hbel5.trans (hb6.mono hbel5.size)
            obtain ⟨rl, hrl⟩ : ∃ rl, rl = q'.length := ⟨_, rfl⟩
            rw [← hrl] at hr6 ⊢
            clear hrl hb6 hv6 hbel5 rqB rB hlB hbB hrqd hbwd hbd hl6
            go_wp2
            go_roundw
            case rel => exact ⟨m + 1, q', a6, rl, c6, by omega, by go_num, rfl, hr6, HQ2, hbel6⟩
            case measure => simp [intOf]; omega
        · have hmn' : m = n := by omega
          subst hmn'
          have HP2 : Hid (LoI l m (k + 1) (nrm (sml p q))) := lo_step HP.out hlt HQ.out
          go_wp2_with fail
          refine (rSumO _ _ _ _ _ _ _ _ _ (hrp.below hbq) hrq (by omega) (by omega)).mono ?_
          rintro e w5 ⟨a5, c5, rfl, hr5, hb5⟩
          have hr5 := own_base hr5 hbw.size
          have hb6 := hbw.trans (hb5.mono hbw.size)
          generalize nrm (sml p q) = R at *
          obtain ⟨rl, hrl⟩ : ∃ rl, rl = R.length := ⟨_, rfl⟩
          rw [← hrl] at hr5 ⊢
          clear hrl hb5
          go_wp2
          go_roundw
          case rel => exact ⟨k + 1, R, a5, rl, c5, by omega, by go_num, rfl, hr5, HP2, hb6⟩
          case measure => simp [intOf]; omega
    · have hkn : k = n := by omega
      subst hkn
      go_wp2
      go_ret
      refine ⟨p, ap, cp, ?_, ?_, HP.out, hbel⟩
      · rw [hNp]; rfl
      · rw [hNp]; exact hop
theorem tl_take (A : List Int) : ∀ n m, n ≤ m → tl (A.take m) n = tl A n
  | 0, _, _ => rfl
  | n + 1, m, h => by rw [tl, tl, take_getD, if_pos (show n < m by omega), tl_take A n m (by omega)]

theorem cDivide (g n c : Nat) (L : List Int) (b : Option Addr) (m d : Nat) (D : List Int) (w : World) (hL : Blk w g L) (hLb : ∀ x ∈ L, 0 ≤ x ∧ x ≤ 2147483646) (hn : n ≤ L.length) (hc : n ≤ c) (hcc : c ≤ 1000) (hD : Rd w b m d D)
    (hne : ∀ x, b = some x → x.block ≠ g) (hm0 : 0 < m) (hm : m ≤ 1000) (hd : nm (D.getD (m - 1) 0) ≠ 0) (hlast : 0 < n → L.getD (n - 1) 0 ≠ 0) :
    Calls Try.prog 89 #[.slice (some ⟨g, 0, none⟩) n c, .slice b m d] w fun e w' => ∃ Q A, e = .returned (.tuple #[.slice (some ⟨w.heap.size, 0, none⟩) (n - (m - 1)) (n - (m - 1)), .slice (some ⟨g, 0, none⟩) (tl A n) c]) ∧
      DivI L D Q A n m (n - (m - 1)) 0 ∧ Blk w' w.heap.size Q ∧ Blk w' g A ∧ w.grownBy w' (some g) := by
  obtain ⟨i0, hi, hz0, hz1, hz2⟩ := info_parts info28
  have hlen := hD.len
  have hgl := hL.lt
  obtain ⟨q, HQ⟩ : ∃ q, Hid (n - (m - 1) = q) := ⟨_, rfl⟩
  have hq1 : q ≤ 1000 := by have := HQ.out; omega
  rw [HQ.out]
  obtain ⟨l, hl⟩ : ∃ l, m = l + 1 := ⟨m - 1, by omega⟩
  subst hl
  have hql : q = n - l := by have := HQ.out; omega
  have HQL : Hid (q = n - l) := hql
  have hql2 : (q : Int) = max ((n : Int) - (l : Int)) 0 := by omega
  clear hql
  obtain ⟨b1, o1, y, rfl, hbb, HY, hy0, hy1, hcy⟩ := hD.one (show l < l + 1 by omega)
  rw [show l + 1 - 1 = l by omega] at hd
  rw [HY.out] at hd
  have hbg : b1 ≠ g := hne _ rfl
  go_enter Try.func89, Try.ntmps89
  go_wp2_with (first | (go_at_call 98; refine (fInv1 _ _ hy0 hy1 hd).mono ?_; rintro e w' ⟨rfl, hw⟩; have hw := hw.symm; subst hw) | (at_make; refine wpList_make_full _ rfl _ _ 23 rfl w.heap.size 28 i0 (.int .u64 0) 1 Try.underlying23 hi hz0 hz1 .i64 .i64 _ _ q rfl rfl (by omega) (by omega) (by rw [hz2]; omega) (by unfold maxLen; omega) (Nat.le_refl _) ?_; intro w1 hown hgrow))
  all_goals
    have hb1 : Blk w1 w.heap.size (List.replicate q 0) := Blk.made hown
    have hbel1 : Below w.heap.size w w1 := (Below.refl _ _).grown hgrow (Nat.le_refl _) (by simp)
    have hb2 : Blk w1 g L := hL.below hbel1 hgl
    clear hown hgrow
    go_loopw [10] (fun i wr => ∃ (k : Nat) (Q A : List Int), k ≤ q ∧ i = .int .i64 ((k : Int) - 1) ∧ Hid (DivI L D Q A n (l + 1) q k) ∧ Blk wr w.heap.size Q ∧ Blk wr g A ∧ w.grownBy wr (some g)) (fun i _ => (intOf i + 1).toNat)
    case atStart => exact ⟨q, _, _, Nat.le_refl _, by go_num, div_start hLb (by have := HQL.out; omega), hb1, hb2, grown_below hbel1 _⟩
    case round =>
      obtain ⟨k, Q, A, hk, rfl, HI, hbq, hba, hgr⟩ := hrel
      have hlA : A.length = L.length := HI.out.la
      have hlQ : Q.length = q := HI.out.lq
      cases k with
      | zero =>
        have hr : Rd wr (some ⟨g, 0, none⟩) n c (A.take n) := hba.rd 0 n c hc (by unfold maxLen; omega) (by omega) (bd_u64 HI.out.ba)
        go_wp2_with (first | (go_at_call 101; refine (cTrim _ _ _ _ _ hr).mono ?_; rintro e w' ⟨rfl, hw⟩; have hw := hw.symm; subst hw) | fail)
        go_ret2
        refine ⟨Q, A, ?_, HI.out, hbq, hba, hgr⟩
        rw [← tl_take A n n (Nat.le_refl _)]
        rfl
      | succ k =>
        first
        | (exfalso; have := HQL.out; omega)
        | (skip
           have hkn : k + l < n := by have := HQL.out; omega
           have hcx := hba.cell (i := k + l) (by omega)
           obtain ⟨x, hx⟩ : ∃ x, A.getD (k + l) 0 = x := ⟨_, rfl⟩
           have hxb : 0 ≤ x ∧ x ≤ 2147483646 := by rw [← hx]; exact getD_bd' HI.out.ba _
           rw [hx] at hcx
           have HX : Hid (A.getD (k + l) 0 = x) := hx
           clear hx
           have hivb := iv_bd y
           obtain ⟨v, hv⟩ : ∃ v, v = nm (x * iv y) := ⟨_, rfl⟩
           have hvb : 0 ≤ v ∧ v ≤ 2147483646 := by rw [hv]; exact nm_bd _
           have hcq := hbq.cell (i := k) (by omega)
           have hfq := hbq.frozen k
           have hfa := hba.frozen
           have hI2 : Hid (DivI L D (Q.set k v) (addAt A k D (nm (-v)) (l + 1)) n (l + 1) q k) := by
             rw [← Int.zero_sub v]
             exact div_step HI.out (by omega) (by have := HQL.out; omega) (by omega) hlen hn (by rw [show l + 1 - 1 = l by omega, HY.out]; exact hd) (hlast (by omega)) HX.out (by rw [hv, show l + 1 - 1 = l by omega, HY.out])
           have hne2 : w.heap.size ≠ g := by omega
           have hgs : wr.grownBy (wr.setCell ⟨w.heap.size, k, none⟩ (.int .u64 v)) (some w.heap.size) := grown_set _ _ _ _
           have hq2 := hbq.set k v
           have ha2 := hba.grown hgs (by simpa using hne2.symm)
           have hD2 := (hD.grown hgr (fun x hx => by obtain rfl := Option.some.inj hx; simpa using hbg)).grown hgs (fun x hx => by obtain rfl := Option.some.inj hx; simp; omega)
           have hgr2 : w.grownBy (wr.setCell ⟨w.heap.size, k, none⟩ (.int .u64 v)) (some g) := by
             refine ⟨hgr.os, hgr.tape, hgr.output, by simpa using hgr.size, fun j hj hjr => ?_⟩
             rw [heap_setCell_other _ _ _ _ (show j ≠ w.heap.size by omega)]
             exact hgr.block j hj hjr
           have HV : Hid (v = nm (x * iv y)) := hv
           have hck : ¬ c = k := by omega
           have HI' : Hid (∀ x ∈ A, 0 ≤ x ∧ x ≤ 2147483646) := HI.out.ba
           clear hv
           have hcv : (wr.setCell ⟨w.heap.size, k, none⟩ (.int .u64 v)).cell? ⟨w.heap.size, k, none⟩ = some (.int .u64 v) := by
             rw [hq2.cell (by rw [List.length_set]; omega), getD_set, if_pos (by omega)]
           have hsubb := nm_bd (-v)
           have hk0 : (0 : Int) ≤ (k : Int) := by omega
           have hkq : (k : Int) < (q : Int) := by omega
           have hkc : (k : Int) ≤ (n : Int) := by omega
           have hkc2 : (n : Int) ≤ (c : Int) := by omega
           go_wp2_with (first | (go_at_call 61; refine (fMul _ _ _ (by omega) (by omega) (by omega) (by omega)).mono ?_; rintro e w' ⟨he, hw⟩; have hw := hw.symm; subst hw; rw [← HV.out] at he; subst he) | fail)
           generalize hws : wr.setCell ⟨w.heap.size, k, none⟩ (.int .u64 v) = ws at *
           clear hws hbq hba hgr hcx hcq hfq hfa HI hb1 hb2 hbel1 hD hL
           go_region_with (first | (go_at_call 59; refine (fSub _ _ _ (by omega) (by omega) (by omega) (by omega)).mono ?_; rintro e w' ⟨rfl, rfl⟩) | (go_at_call 99; refine (cAddTimes _ _ _ _ _ _ _ _ _ _ _ (by exact ha2) (bd_u64 HI'.out) hD2.drew (by exact hne) (by omega) (by omega) (by omega) (by omega) (by omega)).mono ?_; rintro e w3 ⟨rfl, hb3, hg3⟩))
           all_goals
             have hq3 := (show Blk ws.drew _ _ from hq2).grown hg3 (by simpa using hne2)
             have hg4 := grown_trans (grown_drew hgr2) hg3
             clear hg3 hq2 ha2 hD2 hgr2
             go_wp2
             go_roundw
             case rel => exact ⟨k, _, _, by omega, by go_num, hI2, hq3, hb3, hg4⟩
             case measure => simp [intOf])
theorem tl_small {xs : List Int} {n p : Nat} (h : ∀ t, p ≤ t → t < n → xs.getD t 0 = 0) : tl xs n ≤ p := by
  rcases Nat.lt_or_ge p (tl xs n) with hlt | hge
  · have h1 := tl_top xs n (by omega)
    have h2 := tl_le xs n
    exact absurd (h (tl xs n - 1) (by omega) (by omega)) h1
  · exact hge

/-- What is left of a division when it is done. -/
theorem div_done {X D Q A : List Int} {n N M : Nat} (hX : X.length = n) (hN : N = tl (nz X) n) (hM : 0 < M) (hD : D.length = M) (h : DivI (nz X) D Q A N M (N - (M - 1)) 0) :
    Nml Q ∧ Nml (A.take (tl A N)) ∧ (A.take (tl A N)).length = tl A N ∧ tl A N < M ∧ ∀ t, nm (pc Q D t Q.length + (A.take (tl A N)).getD t 0) = nm (X.getD t 0) := by
  have hNn : N ≤ n := by rw [hN]; exact tl_le _ _
  have hla : A.length = n := by rw [h.la, nz_len, hX]
  have htl := tl_le A N
  have hlen : (A.take (tl A N)).length = tl A N := by simp; omega
  have hsm : tl A N ≤ M - 1 := tl_small fun t h1 h2 => h.hi t (by omega) h2
  refine ⟨⟨h.bq, fun hq => ?_⟩, ⟨fun x hx => h.ba x (List.mem_of_mem_take hx), fun hr => ?_⟩, hlen, by omega, fun t => ?_⟩
  · rw [h.lq] at hq ⊢; exact h.top hq
  · rw [hlen] at hr ⊢; rw [take_getD, if_pos (by omega)]; exact tl_top A N hr
  · rw [h.lq, ← nz_getD]
    have hr : (A.take (tl A N)).getD t 0 = if t < N then A.getD t 0 else 0 := by
      rw [take_getD]
      by_cases h1 : t < tl A N
      · rw [if_pos h1, if_pos (by omega)]
      · rw [if_neg h1]
        by_cases h2 : t < N
        · rw [if_pos h2, tl_above A N t (by omega) h2]
        · rw [if_neg h2]
    rw [hr]
    have hb := getD_bd' (nz_bd' X) t
    by_cases h2 : t < N
    · rw [if_pos h2, Int.add_comm, h.eq t h2, nm_small hb.1 hb.2]
    · rw [if_neg h2, Int.add_zero]
      have e1 : pc Q D t (N - (M - 1)) = 0 := by
        by_cases h3 : M ≤ N + 1
        · exact pc_far Q D t _ (by omega)
        · rw [show N - (M - 1) = 0 by omega]; rfl
      rw [e1]
      by_cases h3 : t < n
      · rw [tl_above (nz X) n t (by omega) h3]; rfl
      · rw [getD_big (show (nz X).length ≤ t by rw [nz_len]; omega)]; rfl

theorem cDivOK (a : Option Addr) (n c : Nat) (xs : List Int) (b : Option Addr) (m d : Nat) (ys : List Int) (w : World) (h : Rd w a n c xs) (g : Rd w b m d ys) (hn : n ≤ 40) (hm : m ≤ 40) (hy : 0 < tl (nz ys) m) :
    Calls Try.prog 71 #[.slice a n c, .slice b m d] w fun e w' => ∃ Q R aq ar cq cr, e = .returned (.tuple #[.slice aq Q.length cq, .slice ar R.length cr, .int .i64 0]) ∧ Rd w' aq Q.length cq Q ∧ Rd w' ar R.length cr R ∧ Nml Q ∧ Nml R ∧
      R.length < (nrm ys).length ∧ Q.length ≤ 40 ∧ (∀ t, nm (pc Q (nrm ys) t Q.length + R.getD t 0) = nm (xs.getD t 0)) ∧ Below w.heap.size w w' := by
  have hn1 := tl_le (nz xs) n
  have hm1 := tl_le (nz ys) m
  have hlx := h.len
  have hly := g.len
  have hlny : (nrm ys).length = tl (nz ys) m := by rw [nrm_len, hly]
  have HT : Hid (0 < tl (nz xs) n → (nz xs).getD (tl (nz xs) n - 1) 0 ≠ 0) := tl_top (nz xs) n
  obtain ⟨N, HN⟩ : ∃ N, Hid (tl (nz xs) n = N) := ⟨_, rfl⟩
  obtain ⟨M, HM⟩ : ∃ M, Hid (tl (nz ys) m = M) := ⟨_, rfl⟩
  rw [HN.out] at hn1 HT
  rw [HM.out] at hm1 hy hlny
  have HD : Hid (nm ((nrm ys).getD (M - 1) 0) ≠ 0) := by
    have h1 := (nrm_Nml ys).top (by omega)
    have h2 := getD_bd' (nrm_Nml ys).bd (M - 1)
    unfold Hid
    rw [nm_small h2.1 h2.2, ← hlny]
    exact h1
  have hMb : ((M : Int) == 0) = false := by rw [beq_eq_false_iff_ne]; omega
  go_enter Try.func71, Try.ntmps71
  go_wp2_with fail
  refine (cNormal _ _ _ _ _ g (by omega)).mono ?_
  rintro e w1 ⟨rfl, hr1, hb1⟩
  rw [HM.out]
  go_wp2_with fail
  refine (cNormal _ _ _ _ _ (h.below hb1) (by omega)).mono ?_
  rintro e w2 ⟨rfl, hr2, hb2⟩
  rw [HN.out]
  have hb12 : Below w.heap.size w w2 := hb1.trans (hb2.mono hb1.size)
  have hsz := hb1.size
  have hlt := hr1.lt
  have r1 := (hr1.below hb2 hr1.lt).nrm hly (by omega)
  rw [HM.out] at r1
  go_wp2_with fail
  refine (cDivide _ _ _ _ _ _ _ _ _ hr2 (nz_bd' xs) (by rw [nz_len]; omega) (by omega) (by omega) r1 (fun x hx => by obtain rfl := Option.some.inj hx; simp only; omega) (by omega) (by omega) HD.out HT.out).mono ?_
  rintro e w3 ⟨Q, A, rfl, hI, hq, ha, hg⟩
  obtain ⟨d1, d2, d3, d4, d5⟩ := div_done hlx HN.out.symm hy hlny hI
  have hlq : Q.length = N - (M - 1) := hI.lq
  have hbel3 := below_grown hb12 hg hsz
  have R1 : Rd w3 (some ⟨w2.heap.size, 0, none⟩) Q.length Q.length Q := by
    have := hq.rd 0 Q.length Q.length (Nat.le_refl _) (by unfold maxLen; omega) (by omega) (bd_u64 d1.bd)
    rwa [List.drop_zero, List.take_of_length_le (by omega)] at this
  have R2 : Rd w3 (some ⟨w1.heap.size, 0, none⟩) (A.take (tl A N)).length n (A.take (tl A N)) := by
    have hla : A.length = n := by rw [hI.la, nz_len, hlx]
    have ht := tl_le A N
    have := ha.rd 0 (tl A N) n (by omega) (by unfold maxLen; omega) (by omega) (bd_u64 hI.ba)
    rw [List.drop_zero] at this
    rw [d3]
    exact this
  have H : Hid (Nml Q ∧ Nml (A.take (tl A N)) ∧ (A.take (tl A N)).length < (nrm ys).length ∧ Q.length ≤ 40 ∧ (∀ t, nm (pc Q (nrm ys) t Q.length + (A.take (tl A N)).getD t 0) = nm (xs.getD t 0))) :=
    ⟨d1, d2, by omega, by omega, d5⟩
  rw [← hlq]
  obtain ⟨T, hT⟩ : ∃ T, T = tl A N := ⟨_, rfl⟩
  obtain ⟨R, hR⟩ : ∃ R, R = A.take (tl A N) := ⟨_, rfl⟩
  rw [← hR] at R2 H d3
  rw [← hT] at d3 ⊢
  rw [← d3]
  clear hT hR
  clear d1 d2 d3 d4 d5 hI hq ha hg hr1 hr2 hb1 hb2 r1 hlq
  go_wp2
  go_ret3
  obtain ⟨k1, k2, k3, k4, k5⟩ := H.out
  exact ⟨Q, R, _, _, _, _, rfl, R1, R2, k1, k2, k3, k4, k5, hbel3⟩
end
end Go.Proofs.Ytljlioglpaogdab

/- croftref.Through: LAGRANGE. · (*shamir.parties).join, shamir.Check. -/
import Derived.Test.YtfonochdnmddlabToRefProdC
import Derived.Test.YtfonochdnmddlabToSumC
import Derived.Test.YtfonochdnmddlabToShamirM
import Derived.Test.YtfonochdnmddlabToOwnC
namespace Go.Proofs.Ytfonochdnmddlab
open Go.RowKit Crm

theorem nil_rd' (w : World) : Rd w none 0 0 [] := ⟨rfl, Nat.le_refl _, Nat.zero_le _, by simp, fun _ => rfl, by simp⟩
theorem nrm_nil {xs : List Int} {n : Nat} (hl : xs.length = n) (h : tl (nz xs) n = 0) (x : Int) : nm (ev xs x) = 0 := by
  have h1 : (nrm xs).length = 0 := by rw [nrm_len, hl, h]
  rw [← nrm_ev, List.eq_nil_of_length_eq_zero h1]
  rfl

/-- The product, whatever is handed in. -/
theorem rProd (a : Option Addr) (n c : Nat) (xs : List Int) (b : Option Addr) (m d : Nat) (ys : List Int) (w : World) (h : Rd w a n c xs) (g : Rd w b m d ys) (hn : n ≤ 1000) (hm : m ≤ 1000) :
    Calls Try.prog 95 #[.slice a n c, .slice b m d] w fun e w' => ∃ p a' c', e = .returned (.slice a' p.length c') ∧ Rd w' a' p.length c' p ∧ p.length ≤ n + m - 1 ∧ (∀ x, nm (ev p x) = nm (ev xs x * ev ys x)) ∧ Below w.heap.size w w' := by
  have hn1 := tl_le (nz xs) n
  have hm1 := tl_le (nz ys) m
  by_cases hz : tl (nz xs) n = 0 ∨ tl (nz ys) m = 0
  · refine (rProduct0 _ _ _ _ _ _ _ _ _ h g hn hm hz).mono ?_
    rintro e w' ⟨rfl, hb⟩
    refine ⟨[], none, 0, rfl, nil_rd' _, Nat.zero_le _, fun x => ?_, hb⟩
    rcases hz with hz | hz
    · rw [nm_mul_congr (c := 0) (nrm_nil h.len hz x) rfl, Int.zero_mul]; rfl
    · rw [nm_mul_congr (d := 0) rfl (nrm_nil g.len hz x), Int.mul_zero]; rfl
  · refine (rProduct1 _ _ _ _ _ _ _ _ _ h g hn hm (by omega) (by omega)).mono ?_
    rintro e w' ⟨a', c', rfl, hr, hb, _⟩
    have hl := hr.len
    refine ⟨cvl (nrm xs) (nrm ys), a', c', by rw [hl], by rw [hl]; exact hr, by rw [hl]; omega, fun x => ?_, hb⟩
    rw [cvl_ev]
    exact nm_mul_congr (nrm_ev _ _) (nrm_ev _ _)

/-- What the inner round keeps: the value at its own share, 0 at those that came. -/
structure LgI (l : List (Int × Int)) (i m : Nat) (q : List Int) : Prop where
  le : q.length ≤ if i < m then m else m + 1
  own : nm (ev q (l.getD i (0, 0)).1) = nm (l.getD i (0, 0)).2
  zero : ∀ j, j < m → j ≠ i → nm (ev q (l.getD j (0, 0)).1) = 0
theorem lg_start (l : List (Int × Int)) (i : Nat) : LgI l i 0 [(l.getD i (0, 0)).2] :=
  ⟨by simp, by rw [ev, ev, Int.mul_zero, Int.add_zero], fun j hj => by omega⟩
theorem lg_skip {l : List (Int × Int)} {i : Nat} {q : List Int} (h : LgI l i i q) : LgI l i (i + 1) q :=
  ⟨by have := h.le; simp at this ⊢; omega, h.own, fun j hj hji => h.zero j (by omega) hji⟩
theorem lg_step {l : List (Int × Int)} {n i m : Nat} {q p : List Int} {x z u : Int} (ho : okk l n) (hi : i < n) (hm : m < n) (h : LgI l i m q) (hne : m ≠ i) (hx : (l.getD i (0, 0)).1 = x) (hz : (l.getD m (0, 0)).1 = z)
    (hu : u = iv (nm (x + nm (-z)))) (hl : p.length ≤ q.length + 2 - 1) (hp : ∀ y, nm (ev p y) = nm (ev q y * ev [nm (nm (-z) * u), u] y)) : LgI l i (m + 1) p := by
  have hpp : ∀ y, nm (ev p y) = nm (ev q y * ((y - z) * u)) := fun y => by
    rw [hp]
    refine nm_mul_congr rfl ?_
    rw [ev_pair, nm_addl, ← nm_addl, nm_mull, nm_addl, Int.sub_mul, Int.neg_mul]
    congr 1; omega
  refine ⟨?_, ?_, ?_⟩
  · have := h.le
    split at this <;> split <;> omega
  · rw [hpp, hx]
    have h1 : nm ((x - z) * u) = 1 := by
      have e : nm (x + nm (-z)) = nm (x - z) := by rw [nm_addr]; congr 1
      rw [hu, iv_nm, ← nm_mull, ← e, nm_mull]
      have h2 : nm (x + nm (-z)) ≠ 0 := by rw [e, ← hx, ← hz]; exact ats_apart ho hi hm (fun e => hne e.symm)
      rw [mul_iv h2]
    rw [nm_mul_congr (c := ev q x) (d := 1) rfl (by rw [h1]; rfl), Int.mul_one, ← hx]
    exact h.own
  · intro j hj hji
    rw [hpp]
    by_cases e : j = m
    · subst e
      rw [hz, Int.sub_self, Int.zero_mul, Int.mul_zero]; rfl
    · rw [nm_mul_congr (c := 0) (h.zero j (by omega) hji) rfl, Int.zero_mul]; rfl

/-- What the outer round keeps: the values of the shares that came, 0 at the others. -/
structure LoI (l : List (Int × Int)) (n k : Nat) (p : List Int) : Prop where
  nml : Nml p
  le : p.length ≤ n
  val : ∀ j, j < n → nm (ev p (l.getD j (0, 0)).1) = if j < k then nm (l.getD j (0, 0)).2 else 0
theorem lo_start (l : List (Int × Int)) (n : Nat) : LoI l n 0 [] := ⟨⟨fun x hx => (by cases hx), fun h => (by simp at h)⟩, Nat.zero_le _, fun j _ => by rw [if_neg (by omega)]; rfl⟩
theorem lo_step {l : List (Int × Int)} {n k : Nat} {p q : List Int} (h : LoI l n k p) (hk : k < n) (hq : LgI l k n q) : LoI l n (k + 1) (nrm (sml p q)) := by
  have hql : q.length ≤ n := by have := hq.le; rw [if_pos hk] at this; exact this
  refine ⟨nrm_Nml _, ?_, fun j hj => ?_⟩
  · have := nrm_le (sml p q)
    rw [sml_len] at this
    have := h.le
    omega
  · rw [nrm_ev, sml_ev]
    by_cases e : j = k
    · subst e
      have h1 := h.val j hj
      rw [if_neg (by omega)] at h1
      rw [if_pos (by omega), nm_add_congr (c := 0) (d := (l.getD j (0, 0)).2) h1 hq.own, Int.zero_add]
    · have h1 := h.val j hj
      rw [nm_add_congr (c := ev p (l.getD j (0, 0)).1) (d := 0) rfl (hq.zero j hj e), Int.add_zero, h1]
      by_cases h2 : j < k
      · rw [if_pos h2, if_pos (by omega)]
      · rw [if_neg h2, if_neg (by omega)]

set_option maxRecDepth 100000 in
set_option maxHeartbeats 1000000 in
theorem rThroughO (a : Option Addr) (n c : Nat) (l : List (Int × Int)) (w : World) (h : RdS w a n c l) (hn : n ≤ 40) (ho : okk l n) :
    Calls Try.prog 76 #[.slice a n c] w fun e w' => ∃ p a' c', e = .returned (.slice a' p.length c') ∧ w'.ownsRow w.heap.size 28 1 (.slice a' p.length c') p.length (p.map (Value.int .u64)) ∧ LoI l n n p ∧ Below w.heap.size w w' := by
  have HO : Hid (okk l n) := ho
  clear ho
  have hlen := h.len
  go_enter Try.func76, Try.ntmps76
  go_wp2
  go_loopw [3, 4] (fun v i wr => ∃ (k : Nat) (p : List Int) (ap : Option Addr) (N cp : Nat), k ≤ n ∧ i = .int .i64 k ∧ v = .slice ap N cp ∧ wr.ownsRow w.heap.size 28 1 (.slice ap N cp) N (p.map (Value.int .u64)) ∧ Hid (LoI l n k p) ∧ Below w.heap.size w wr) (fun _ i _ => n - (intOf i).toNat)
  case atStart => exact ⟨0, [], none, 0, 0, Nat.zero_le _, rfl, rfl, World.ownsRow_nil _ _ _ _, lo_start l n, Below.refl _ _⟩
  case round =>
    obtain ⟨k, p, ap, N, cp, hk, rfl, rfl, hop, HP, hbel⟩ := hrel
    have hrp : Rd wr ap N cp p := by
      obtain ⟨a2, c2, e2, hr, _⟩ := Rd.own hop (bd_u64 HP.out.nml.bd)
      simp only [Value.slice.injEq, true_and] at e2
      obtain ⟨rfl, rfl⟩ := e2
      exact hr
    obtain ⟨wo, hwo⟩ : ∃ wo, wo = wr := ⟨_, rfl⟩
    subst hwo
    have hs1 := hbel.size
    have hNp := hrp.len
    have hNn : N ≤ n := by have := HP.out.le; omega
    by_cases hlt : k < n
    · obtain ⟨b, o, x, y, rfl, hbb, HX, HY, hx0, hx1, hy0, hy1, hcx, hcy⟩ := (h.below hbel).one hlt
      have hxo := (HO.out k hlt).1
      rw [HX.out] at hxo
      have hxo1 := hxo.1
      have hxo2 := hxo.2
      have hbA : Below wo.heap.size wo (wo.alloc (.cells #[.int .u64 y] 28)) := (Below.refl _ _).alloc (Nat.le_refl _) _
      have hlA := Blk.lit1 wo y
      have rA : Rd (wo.alloc (.cells #[.int .u64 y] 28)) (some ⟨wo.heap.size, 0, none⟩) 1 1 [y] := hlA.whole 1 rfl (by unfold maxLen; omega) (fun u hu => by rw [List.mem_singleton.1 hu]; exact ⟨hy0, hy1⟩)
      have HS : Hid (LgI l k 0 [y]) := by have := lg_start l k; rw [HY.out] at this; exact this
      go_wp2
      go_loopw [5, 6] (fun v i wr => ∃ (m : Nat) (q : List Int) (aq : Option Addr) (M cq : Nat), m ≤ n ∧ i = .int .i64 m ∧ v = .slice aq M cq ∧ Rd wr aq M cq q ∧ Hid (LgI l k m q) ∧ Below wo.heap.size wo wr) (fun _ i _ => n - (intOf i).toNat)
      case atStart => exact ⟨0, _, _, _, _, Nat.zero_le _, rfl, rfl, rA, HS, hbA⟩
      case round =>
        clear hbA hlA rA HS
        obtain ⟨m, q, aq, M, cq, hm, rfl, rfl, hrq, HQ, hbq⟩ := hrel
        have hbw : Below w.heap.size w wr := hbel.trans (hbq.mono hs1)
        have hMq := hrq.len
        have hMn : M ≤ n + 1 := by have := HQ.out.le; split at this <;> omega
        by_cases hmn : m < n
        · by_cases hmk : m = k
          · subst hmk
            have HQ2 : Hid (LgI l m (m + 1) q) := lg_skip HQ.out
            go_wp2
            go_roundw
            case rel => exact ⟨m + 1, q, aq, M, cq, by omega, by go_num, rfl, hrq, HQ2, hbq⟩
            case measure => simp [intOf]; omega
          · have hmb : ((m : Int) == (k : Int)) = false := by rw [beq_eq_false_iff_ne]; omega
            obtain ⟨b', o', z, y', e', _, HZ, _, hz0, hz1, _, _, hcz, _⟩ := (h.below hbw).one hmn
            simp only [Option.some.injEq, Addr.mk.injEq, and_true] at e'
            obtain ⟨rfl, rfl⟩ := e'
            obtain ⟨b'', o'', x'', y'', e'', _, HX'', _, _, _, _, _, hcx'', _⟩ := (h.below hbw).one hlt
            simp only [Option.some.injEq, Addr.mk.injEq, and_true] at e''
            obtain ⟨rfl, rfl⟩ := e''
            have e3 : x'' = x := HX''.out.symm.trans HX.out
            subst e3
            have hzo := (HO.out m hmn).1
            rw [HZ.out] at hzo
            have hzo1 := hzo.1
            have hzo2 := hzo.2
            have hnz := nm_bd (-z)
            have hnd := nm_bd (x'' + nm (-z))
            have HD : Hid (nm (nm (x'' + nm (-z))) ≠ 0) := by
              have := ats_apart HO.out hlt hmn (fun e => hmk e.symm)
              rw [HX.out, HZ.out] at this
              unfold Hid
              rw [nm_nm, nm_addr]
              exact this
            obtain ⟨u, HU⟩ : ∃ u, Hid (u = iv (nm (x'' + nm (-z)))) := ⟨_, rfl⟩
            have hub : 0 ≤ u ∧ u ≤ 2147483646 := by rw [HU.out]; exact iv_bd _
            have hnu := nm_bd (nm (-z) * u)
            go_wp2
            go_region
            have hbd := hbq.drew
            have hbwd := hbw.drew
            have hrqd := hrq.drew
            have hbB : Below wr.drew.heap.size wr.drew (wr.drew.alloc (.cells #[.int .u64 (nm (nm (-z) * u)), .int .u64 u] 28)) := (Below.refl _ _).alloc (Nat.le_refl _) _
            have hlB := Blk.lit2 wr.drew (nm (nm (-z) * u)) u
            generalize wr.drew = wd at *
            go_wp2_with (first | (go_at_call 94; refine (rNeg _ _ (by omega) (by omega)).mono ?_; rintro e w3 ⟨rfl, hw⟩; have hw := hw.symm; subst hw) | (go_at_call 46; refine (rAdd _ _ _ (by omega) (by omega) (by omega) (by omega)).mono ?_; rintro e w3 ⟨rfl, hw⟩; have hw := hw.symm; subst hw) | (go_at_call 93; refine (rInv _ _ (by omega) (by omega) HD.out).mono ?_; rintro e w3 ⟨he, hw⟩; have hw := hw.symm; subst hw; rw [← HU.out] at he; subst he) | (go_at_call 47; refine (rMul _ _ _ (by omega) (by omega) (by omega) (by omega)).mono ?_; rintro e w3 ⟨rfl, hw⟩; have hw := hw.symm; subst hw) | fail)
            have rB := hlB.whole 2 rfl (by unfold maxLen; omega) (by
              intro t ht
              simp only [List.mem_cons, List.not_mem_nil, or_false] at ht
              rcases ht with rfl | rfl <;> omega)
            have rqB := hrqd.below hbB
            have hbel5 := hbd.trans (hbB.mono hbd.size)
            refine (rProd _ _ _ _ _ _ _ _ _ rqB rB (by omega) (by omega)).mono ?_
            rintro e w6 ⟨q', a6, c6, rfl, hr6, hl6, hv6, hb6⟩
            have HQ2 : Hid (LgI l k (m + 1) q') := lg_step HO.out hlt hmn HQ.out hmk HX.out HZ.out HU.out (by omega) hv6
            have hbel6 := hbel5.trans (hb6.mono hbel5.size)
            obtain ⟨rl, hrl⟩ : ∃ rl, rl = q'.length := ⟨_, rfl⟩
            rw [← hrl] at hr6 ⊢
            clear hrl hb6 hv6 hbel5 rqB rB hlB hbB hrqd hbwd hbd hl6
            go_wp2
            go_roundw
            case rel => exact ⟨m + 1, q', a6, rl, c6, by omega, by go_num, rfl, hr6, HQ2, hbel6⟩
            case measure => simp [intOf]; omega
        · have hmn' : m = n := by omega
          subst hmn'
          have HP2 : Hid (LoI l m (k + 1) (nrm (sml p q))) := lo_step HP.out hlt HQ.out
          go_wp2_with fail
          refine (rSumO _ _ _ _ _ _ _ _ _ (hrp.below hbq) hrq (by omega) (by omega)).mono ?_
          rintro e w5 ⟨a5, c5, rfl, hr5, hb5⟩
          have hr5 := own_base hr5 hbw.size
          have hb6 := hbw.trans (hb5.mono hbw.size)
          generalize nrm (sml p q) = R at *
          obtain ⟨rl, hrl⟩ : ∃ rl, rl = R.length := ⟨_, rfl⟩
          rw [← hrl] at hr5 ⊢
          clear hrl hb5
          go_wp2
          go_roundw
          case rel => exact ⟨k + 1, R, a5, rl, c5, by omega, by go_num, rfl, hr5, HP2, hb6⟩
          case measure => simp [intOf]; omega
    · have hkn : k = n := by omega
      subst hkn
      go_wp2
      go_ret
      refine ⟨p, ap, cp, ?_, ?_, HP.out, hbel⟩
      · rw [hNp]; rfl
      · rw [hNp]; exact hop
theorem rThrough (a : Option Addr) (n c : Nat) (l : List (Int × Int)) (w : World) (h : RdS w a n c l) (hn : n ≤ 40) (ho : okk l n) :
    Calls Try.prog 76 #[.slice a n c] w fun e w' => ∃ p a' c', e = .returned (.slice a' p.length c') ∧ Rd w' a' p.length c' p ∧ LoI l n n p ∧ Below w.heap.size w w' := by
  refine (rThroughO _ _ _ _ _ h hn ho).mono ?_
  rintro e w' ⟨p, a', c', rfl, hown, hL, hb⟩
  obtain ⟨a2, c2, e2, hr, _⟩ := Rd.own hown (bd_u64 hL.nml.bd)
  simp only [Value.slice.injEq, true_and] at e2
  obtain ⟨rfl, rfl⟩ := e2
  exact ⟨p, a', c', rfl, hr, hL, hb⟩
end Go.Proofs.Ytfonochdnmddlab

namespace Go.Proofs.Ytfonochdnmddlab
open Go.RowKit Crm

/-- Row g holds the marks M. -/
def BlkB (w : World) (g : Nat) (M : List Bool) : Prop := w.heap[g]? = some (.cells (M.map Value.bool).toArray 116 (0, 0))
theorem BlkB.lt {w : World} {g : Nat} {M : List Bool} (h : BlkB w g M) : g < w.heap.size := (Array.getElem?_eq_some_iff.1 h).1
theorem BlkB.cell {w : World} {g : Nat} {M : List Bool} (h : BlkB w g M) {i : Nat} (hi : i < M.length) : w.cell? ⟨g, i, none⟩ = some (.bool (M.getD i false)) := by
  rw [cell_of_row w g i _ _ (0, 0) h]
  simp [List.getElem?_eq_getElem hi]
theorem BlkB.frozen {w : World} {g : Nat} {M : List Bool} (h : BlkB w g M) (i : Nat) : w.frozen? ⟨g, i, none⟩ = false := frozen_of_row w g i _ _ h
theorem BlkB.set {w : World} {g : Nat} {M : List Bool} (h : BlkB w g M) (i : Nat) (v : Bool) : BlkB (w.setCell ⟨g, i, none⟩ (.bool v)) g (M.set i v) := by
  have := heap_setCell_same w g i _ _ (.bool v) h
  unfold BlkB
  rw [this]
  simp [List.map_set]
theorem BlkB.below {w w' : World} {B g : Nat} {M : List Bool} (h : BlkB w g M) (hb : Below B w w') (hg : g < B) : BlkB w' g M := by
  unfold BlkB; rw [hb.block g hg]; exact h

set_option maxRecDepth 100000 in
theorem cJoinO (g : Nat) (x : Int) (w : World) (h : x < 1 ∨ 9 < x) :
    Calls Try.prog 77 #[.pointer (some ⟨g, 0, none⟩), .int .i64 x] w fun e w' => e = .returned (.bool false) ∧ w' = w := by
  by_cases h1 : x < 1
  · clear h
    go_enter Try.func77, Try.ntmps77
    go_wp2
    go_ret
    exact ⟨rfl, rfl⟩
  · have h2 : 9 < x := by omega
    clear h
    go_enter Try.func77, Try.ntmps77
    go_wp2
    go_ret
    exact ⟨rfl, rfl⟩
set_option maxRecDepth 100000 in
theorem cJoinN (g k : Nat) (M : List Bool) (w : World) (h : BlkB w g M) (hM : M.length = 10) (h1 : 1 ≤ k) (h9 : k ≤ 9) (hk : M.getD k false = true) :
    Calls Try.prog 77 #[.pointer (some ⟨g, 0, none⟩), .int .i64 k] w fun e w' => e = .returned (.bool false) ∧ w' = w := by
  have hc := h.cell (i := k) (by omega)
  rw [hk] at hc
  have hlt := h.lt
  go_enter Try.func77, Try.ntmps77
  go_wp2
  go_ret
  exact ⟨rfl, rfl⟩
set_option maxRecDepth 100000 in
theorem cJoinY (g k : Nat) (M : List Bool) (w : World) (h : BlkB w g M) (hM : M.length = 10) (h1 : 1 ≤ k) (h9 : k ≤ 9) (hk : M.getD k false = false) :
    Calls Try.prog 77 #[.pointer (some ⟨g, 0, none⟩), .int .i64 k] w fun e w' => e = .returned (.bool true) ∧ w' = w.setCell ⟨g, k, none⟩ (.bool true) := by
  have hc := h.cell (i := k) (by omega)
  rw [hk] at hc
  have hlt := h.lt
  have hfz := h.frozen k
  go_enter Try.func77, Try.ntmps77
  go_wp2
  go_ret
  exact ⟨rfl, rfl⟩
end Go.Proofs.Ytfonochdnmddlab

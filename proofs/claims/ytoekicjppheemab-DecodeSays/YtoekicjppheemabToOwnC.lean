/- croftref.Through: LAGRANGE. · Lists that the call gathers: of columns, of rows; one more. -/
import Derived.Test.YtoekicjppheemabToRefA
import Derived.Test.YtoekicjppheemabToSumC
import Derived.Test.YtoekicjppheemabToMath
import Derived.Maps.AppendAt
namespace Go.Proofs.Ytoekicjppheemab
open Go.RowKit Crm

theorem nil_rd' (w : World) : Rd w none 0 0 [] := ⟨rfl, Nat.le_refl _, Nat.zero_le _, by simp, fun _ => rfl, by simp⟩
theorem nrm_nil {xs : List Int} {n : Nat} (hl : xs.length = n) (h : tl (nz xs) n = 0) (x : Int) : nm (ev xs x) = 0 := by
  have h1 : (nrm xs).length = 0 := by rw [nrm_len, hl, h]
  rw [← nrm_ev, List.eq_nil_of_length_eq_zero h1]
  rfl

/-- The product, whatever is handed in. -/
theorem rProd (a : Option Addr) (n c : Nat) (xs : List Int) (b : Option Addr) (m d : Nat) (ys : List Int) (w : World) (h : Rd w a n c xs) (g : Rd w b m d ys) (hn : n ≤ 1000) (hm : m ≤ 1000) :
    Calls Try.prog 43 #[.slice a n c, .slice b m d] w fun e w' => ∃ p a' c', e = .returned (.slice a' p.length c') ∧ Rd w' a' p.length c' p ∧ p.length ≤ n + m - 1 ∧ (∀ x, nm (ev p x) = nm (ev xs x * ev ys x)) ∧ Below w.heap.size w w' := by
  have hn1 := tl_le (nz xs) n
  have hm1 := tl_le (nz ys) m
  by_cases hz : tl (nz xs) n = 0 ∨ tl (nz ys) m = 0
  · refine (rProduct0 _ _ _ _ _ _ _ _ _ h g hn hm hz).mono ?_
    rintro e w' ⟨rfl, hb⟩
    refine ⟨[], none, 0, rfl, nil_rd' _, Nat.zero_le _, fun x => ?_, hb⟩
    rcases hz with hz | hz
    · rw [nm_mul_congr (c := 0) (nrm_nil h.len hz x) rfl, Int.zero_mul]; rfl
    · rw [nm_mul_congr (d := 0) rfl (nrm_nil g.len hz x), Int.mul_zero]; rfl
  · refine (rProduct1 _ _ _ _ _ _ _ _ _ h g hn hm (by omega) (by omega)).mono ?_
    rintro e w' ⟨a', c', rfl, hr, hb, _⟩
    have hl := hr.len
    refine ⟨cvl (nrm xs) (nrm ys), a', c', by rw [hl], by rw [hl]; exact hr, by rw [hl]; omega, fun x => ?_, hb⟩
    rw [cvl_ev]
    exact nm_mul_congr (nrm_ev _ _) (nrm_ev _ _)

/-- What the inner round keeps: the value at its own share, 0 at those that came. -/
structure LgI (l : List (Int × Int)) (i m : Nat) (q : List Int) : Prop where
  le : q.length ≤ if i < m then m else m + 1
  own : nm (ev q (l.getD i (0, 0)).1) = nm (l.getD i (0, 0)).2
  zero : ∀ j, j < m → j ≠ i → nm (ev q (l.getD j (0, 0)).1) = 0
theorem lg_start (l : List (Int × Int)) (i : Nat) : LgI l i 0 [(l.getD i (0, 0)).2] :=
  ⟨by simp, by rw [ev, ev, Int.mul_zero, Int.add_zero], fun j hj => by omega⟩
theorem lg_skip {l : List (Int × Int)} {i : Nat} {q : List Int} (h : LgI l i i q) : LgI l i (i + 1) q :=
  ⟨by have := h.le; simp at this ⊢; omega, h.own, fun j hj hji => h.zero j (by omega) hji⟩
theorem lg_step {l : List (Int × Int)} {n i m : Nat} {q p : List Int} {x z u : Int} (ho : okk l n) (hi : i < n) (hm : m < n) (h : LgI l i m q) (hne : m ≠ i) (hx : (l.getD i (0, 0)).1 = x) (hz : (l.getD m (0, 0)).1 = z)
    (hu : u = iv (nm (x + nm (-z)))) (hl : p.length ≤ q.length + 2 - 1) (hp : ∀ y, nm (ev p y) = nm (ev q y * ev [nm (nm (-z) * u), u] y)) : LgI l i (m + 1) p := by
  have hpp : ∀ y, nm (ev p y) = nm (ev q y * ((y - z) * u)) := fun y => by
    rw [hp]
    refine nm_mul_congr rfl ?_
    rw [ev_pair, nm_addl, ← nm_addl, nm_mull, nm_addl, Int.sub_mul, Int.neg_mul]
    congr 1; omega
  refine ⟨?_, ?_, ?_⟩
  · have := h.le
    split at this <;> split <;> omega
  · rw [hpp, hx]
    have h1 : nm ((x - z) * u) = 1 := by
      have e : nm (x + nm (-z)) = nm (x - z) := by rw [nm_addr]; congr 1
      rw [hu, iv_nm, ← nm_mull, ← e, nm_mull]
      have h2 : nm (x + nm (-z)) ≠ 0 := by rw [e, ← hx, ← hz]; exact ats_apart ho hi hm (fun e => hne e.symm)
      rw [mul_iv h2]
    rw [nm_mul_congr (c := ev q x) (d := 1) rfl (by rw [h1]; rfl), Int.mul_one, ← hx]
    exact h.own
  · intro j hj hji
    rw [hpp]
    by_cases e : j = m
    · subst e
      rw [hz, Int.sub_self, Int.zero_mul, Int.mul_zero]; rfl
    · rw [nm_mul_congr (c := 0) (h.zero j (by omega) hji) rfl, Int.zero_mul]; rfl

/-- What the outer round keeps: the values of the shares that came, 0 at the others. -/
structure LoI (l : List (Int × Int)) (n k : Nat) (p : List Int) : Prop where
  nml : Nml p
  le : p.length ≤ n
  val : ∀ j, j < n → nm (ev p (l.getD j (0, 0)).1) = if j < k then nm (l.getD j (0, 0)).2 else 0
theorem lo_start (l : List (Int × Int)) (n : Nat) : LoI l n 0 [] := ⟨⟨fun x hx => (by cases hx), fun h => (by simp at h)⟩, Nat.zero_le _, fun j _ => by rw [if_neg (by omega)]; rfl⟩
theorem lo_step {l : List (Int × Int)} {n k : Nat} {p q : List Int} (h : LoI l n k p) (hk : k < n) (hq : LgI l k n q) : LoI l n (k + 1) (nrm (sml p q)) := by
  have hql : q.length ≤ n := by have := hq.le; rw [if_pos hk] at this; exact this
  refine ⟨nrm_Nml _, ?_, fun j hj => ?_⟩
  · have := nrm_le (sml p q)
    rw [sml_len] at this
    have := h.le
    omega
  · rw [nrm_ev, sml_ev]
    by_cases e : j = k
    · subst e
      have h1 := h.val j hj
      rw [if_neg (by omega)] at h1
      rw [if_pos (by omega), nm_add_congr (c := 0) (d := (l.getD j (0, 0)).2) h1 hq.own, Int.zero_add]
    · have h1 := h.val j hj
      rw [nm_add_congr (c := ev p (l.getD j (0, 0)).1) (d := 0) rfl (hq.zero j hj e), Int.add_zero, h1]
      by_cases h2 : j < k
      · rw [if_pos h2, if_pos (by omega)]
      · rw [if_neg h2, if_neg (by omega)]

set_option maxRecDepth 100000 in
set_option maxHeartbeats 1000000 in
theorem rThroughO (a : Option Addr) (n c : Nat) (l : List (Int × Int)) (w : World) (h : RdS w a n c l) (hn : n ≤ 40) (ho : okk l n) :
    Calls Try.prog 26 #[.slice a n c] w fun e w' => ∃ p a' c', e = .returned (.slice a' p.length c') ∧ w'.ownsRow w.heap.size 28 1 (.slice a' p.length c') p.length (p.map (Value.int .u64)) ∧ LoI l n n p ∧ Below w.heap.size w w' := by
  have HO : Hid (okk l n) := ho
  clear ho
  have hlen := h.len
  go_enter Try.func26, Try.ntmps26
  go_wp2
  go_loopw [3, 4] (fun v i wr => ∃ (k : Nat) (p : List Int) (ap : Option Addr) (N cp : Nat), k ≤ n ∧ i = .int .i64 k ∧ v = .slice ap N cp ∧ wr.ownsRow w.heap.size 28 1 (.slice ap N cp) N (p.map (Value.int .u64)) ∧ Hid (LoI l n k p) ∧ Below w.heap.size w wr) (fun _ i _ => n - (intOf i).toNat)
  case atStart => exact ⟨0, [], none, 0, 0, Nat.zero_le _, rfl, rfl, World.ownsRow_nil _ _ _ _, lo_start l n, Below.refl _ _⟩
  case round =>
    obtain ⟨k, p, ap, N, cp, hk, rfl, rfl, hop, HP, hbel⟩ := hrel
    have hrp : Rd wr ap N cp p := by
      obtain ⟨a2, c2, e2, hr, _⟩ := Rd.own hop (bd_u64 HP.out.nml.bd)
      simp only [Value.slice.injEq, true_and] at e2
      obtain ⟨rfl, rfl⟩ := e2
      exact hr
    obtain ⟨wo, hwo⟩ : ∃ wo, wo = wr := ⟨_, rfl⟩
    subst hwo
    have hs1 := hbel.size
    have hNp := hrp.len
    have hNn : N ≤ n := by have := HP.out.le; omega
    by_cases hlt : k < n
    · obtain ⟨b, o, x, y, rfl, hbb, HX, HY, hx0, hx1, hy0, hy1, hcx, hcy⟩ := (h.below hbel).one hlt
      have hxo := (HO.out k hlt).1
      rw [HX.out] at hxo
      have hxo1 := hxo.1
      have hxo2 := hxo.2
      have hbA : Below wo.heap.size wo (wo.alloc (.cells #[.int .u64 y] 28)) := (Below.refl _ _).alloc (Nat.le_refl _) _
      have hlA := Blk.lit1 wo y
      have rA : Rd (wo.alloc (.cells #[.int .u64 y] 28)) (some ⟨wo.heap.size, 0, none⟩) 1 1 [y] := hlA.whole 1 rfl (by unfold maxLen; omega) (fun u hu => by rw [List.mem_singleton.1 hu]; exact ⟨hy0, hy1⟩)
      have HS : Hid (LgI l k 0 [y]) := by have := lg_start l k; rw [HY.out] at this; exact this
      go_wp2
      go_loopw [5, 6] (fun v i wr => ∃ (m : Nat) (q : List Int) (aq : Option Addr) (M cq : Nat), m ≤ n ∧ i = .int .i64 m ∧ v = .slice aq M cq ∧ Rd wr aq M cq q ∧ Hid (LgI l k m q) ∧ Below wo.heap.size wo wr) (fun _ i _ => n - (intOf i).toNat)
      case atStart => exact ⟨0, _, _, _, _, Nat.zero_le _, rfl, rfl, rA, HS, hbA⟩
      case round =>
        clear hbA hlA rA HS
        obtain ⟨m, q, aq, M, cq, hm, rfl, rfl, hrq, HQ, hbq⟩ := hrel
        have hbw : Below w.heap.size w wr := hbel.trans (hbq.mono hs1)
        have hMq := hrq.len
        have hMn : M ≤ n + 1 := by have := HQ.out.le; split at this <;> omega
        by_cases hmn : m < n
        · by_cases hmk : m = k
          · subst hmk
            have HQ2 : Hid (LgI l m (m + 1) q) := lg_skip HQ.out
            go_wp2
            go_roundw
            case rel => exact ⟨m + 1, q, aq, M, cq, by omega, by go_num, rfl, hrq, HQ2, hbq⟩
            case measure => simp [intOf]; omega
          · have hmb : ((m : Int) == (k : Int)) = false := by rw [beq_eq_false_iff_ne]; omega
            obtain ⟨b', o', z, y', e', _, HZ, _, hz0, hz1, _, _, hcz, _⟩ := (h.below hbw).one hmn
            simp only [Option.some.injEq, Addr.mk.injEq, and_true] at e'
            obtain ⟨rfl, rfl⟩ := e'
            obtain ⟨b'', o'', x'', y'', e'', _, HX'', _, _, _, _, _, hcx'', _⟩ := (h.below hbw).one hlt
            simp only [Option.some.injEq, Addr.mk.injEq, and_true] at e''
            obtain ⟨rfl, rfl⟩ := e''
            have e3 : x'' = x := HX''.out.symm.trans HX.out
            subst e3
            have hzo := (HO.out m hmn).1
            rw [HZ.out] at hzo
            have hzo1 := hzo.1
            have hzo2 := hzo.2
            have hnz := nm_bd (-z)
            have hnd := nm_bd (x'' + nm (-z))
            have HD : Hid (nm (nm (x'' + nm (-z))) ≠ 0) := by
              have := ats_apart HO.out hlt hmn (fun e => hmk e.symm)
              rw [HX.out, HZ.out] at this
              unfold Hid
              rw [nm_nm, nm_addr]
              exact this
            obtain ⟨u, HU⟩ : ∃ u, Hid (u = iv (nm (x'' + nm (-z)))) := ⟨_, rfl⟩
            have hub : 0 ≤ u ∧ u ≤ 2147483646 := by rw [HU.out]; exact iv_bd _
            have hnu := nm_bd (nm (-z) * u)
            go_wp2
            go_region
            have hbd := hbq.drew
            have hbwd := hbw.drew
            have hrqd := hrq.drew
            have hbB : Below wr.drew.heap.size wr.drew (wr.drew.alloc (.cells #[.int .u64 (nm (nm (-z) * u)), .int .u64 u] 28)) := (Below.refl _ _).alloc (Nat.le_refl _) _
            have hlB := Blk.lit2 wr.drew (nm (nm (-z) * u)) u
            generalize wr.drew = wd at *
            go_wp2_with (first | (go_at_call 42; refine (rNeg _ _ (by omega) (by omega)).mono ?_; rintro e w3 ⟨rfl, hw⟩; have hw := hw.symm; subst hw) | (go_at_call 41; refine (rAdd _ _ _ (by omega) (by omega) (by omega) (by omega)).mono ?_; rintro e w3 ⟨rfl, hw⟩; have hw := hw.symm; subst hw) | (go_at_call 40; refine (rInv _ _ (by omega) (by omega) HD.out).mono ?_; rintro e w3 ⟨he, hw⟩; have hw := hw.symm; subst hw; rw [← HU.out] at he; subst he) | (go_at_call 44; refine (rMul _ _ _ (by omega) (by omega) (by omega) (by omega)).mono ?_; rintro e w3 ⟨rfl, hw⟩; have hw := hw.symm; subst hw) | fail)
            have rB := hlB.whole 2 rfl (by unfold maxLen; omega) (by
              intro t ht
              simp only [List.mem_cons, List.not_mem_nil, or_false] at ht
              rcases ht with rfl | rfl <;> omega)
            have rqB := hrqd.below hbB
            have hbel5 := hbd.trans (hbB.mono hbd.size)
            refine (rProd _ _ _ _ _ _ _ _ _ rqB rB (by omega) (by omega)).mono ?_
            rintro e w6 ⟨q', a6, c6, rfl, hr6, hl6, hv6, hb6⟩
            have HQ2 : Hid (LgI l k (m + 1) q') := lg_step HO.out hlt hmn HQ.out hmk HX.out HZ.out HU.out (by omega) hv6
            have hbel6 := hbel5.trans (hb6.mono hbel5.size)
            obtain ⟨rl, hrl⟩ : ∃ rl, rl = q'.length := ⟨_, rfl⟩
            rw [← hrl] at hr6 ⊢
            clear hrl hb6 hv6 hbel5 rqB rB hlB hbB hrqd hbwd hbd hl6
            go_wp2
            go_roundw
            case rel => exact ⟨m + 1, q', a6, rl, c6, by omega, by go_num, rfl, hr6, HQ2, hbel6⟩
            case measure => simp [intOf]; omega
        · have hmn' : m = n := by omega
          subst hmn'
          have HP2 : Hid (LoI l m (k + 1) (nrm (sml p q))) := lo_step HP.out hlt HQ.out
          go_wp2_with fail
          refine (rSumO _ _ _ _ _ _ _ _ _ (hrp.below hbq) hrq (by omega) (by omega)).mono ?_
          rintro e w5 ⟨a5, c5, rfl, hr5, hb5⟩
          have hr5 := own_base hr5 hbw.size
          have hb6 := hbw.trans (hb5.mono hbw.size)
          generalize nrm (sml p q) = R at *
          obtain ⟨rl, hrl⟩ : ∃ rl, rl = R.length := ⟨_, rfl⟩
          rw [← hrl] at hr5 ⊢
          clear hrl hb5
          go_wp2
          go_roundw
          case rel => exact ⟨k + 1, R, a5, rl, c5, by omega, by go_num, rfl, hr5, HP2, hb6⟩
          case measure => simp [intOf]; omega
    · have hkn : k = n := by omega
      subst hkn
      go_wp2
      go_ret
      refine ⟨p, ap, cp, ?_, ?_, HP.out, hbel⟩
      · rw [hNp]; rfl
      · rw [hNp]; exact hop
theorem rThrough (a : Option Addr) (n c : Nat) (l : List (Int × Int)) (w : World) (h : RdS w a n c l) (hn : n ≤ 40) (ho : okk l n) :
    Calls Try.prog 26 #[.slice a n c] w fun e w' => ∃ p a' c', e = .returned (.slice a' p.length c') ∧ Rd w' a' p.length c' p ∧ LoI l n n p ∧ Below w.heap.size w w' := by
  refine (rThroughO _ _ _ _ _ h hn ho).mono ?_
  rintro e w' ⟨p, a', c', rfl, hown, hL, hb⟩
  obtain ⟨a2, c2, e2, hr, _⟩ := Rd.own hown (bd_u64 hL.nml.bd)
  simp only [Value.slice.injEq, true_and] at e2
  obtain ⟨rfl, rfl⟩ := e2
  exact ⟨p, a', c', rfl, hr, hL, hb⟩
end Go.Proofs.Ytoekicjppheemab

namespace Go.Proofs.Ytoekicjppheemab
open Go.RowKit

/-- A list that the call gathers, of whatever one-cell elements, and one more. -/
theorem wpList_appV {P : Program} {T E : TypeId} {z : Value} {by_ : Nat} (hT : P.underlying T = some (.slice E)) (info : (P.info? E).map (fun i => (i.zero, i.size, i.bytes)) = some (some z, 1, by_)) (hz : z.cells.size = 1) (hby : by_ ≤ 100)
    (w : World) {ops : Array Oper} {rest : List Oper} {o : Oper} {a : Act} {Q : Exit → Act → World → Prop} (hgd : o.guard = none) (s x : Operand)
    (ho : o.op = .call { callee := .builtin .append, args := #[s, x], argTypes := #[T, T] })
    (base : Nat) (v : Value) (n : Nat) (xs : List Value) (hs : a.eval s = v) (hown : w.ownsRow base E 1 v n xs) (y : Value) (hy : y.oneCell' = true) (hx : a.eval x = .slice (some ⟨w.heap.size, 0, none⟩) 1 1)
    (hn : n ≤ 1000000) (hbase : base ≤ w.heap.size)
    (h : ∀ v' w', w'.ownsRow base E 1 v' (n + 1) (xs ++ [y]) → w.grownBy w' v.ownBlock → (v'.ownBlock = v.ownBlock ∨ ∃ k, v'.ownBlock = some k ∧ w.heap.size ≤ k) → wpList P ops Q rest (a.put o.dst v') w') :
    wpList P ops Q (o :: rest) a (w.alloc (.cells #[y] E)) := by
  obtain ⟨i0, hi, hz0, hz1, hz2⟩ := info_parts info
  refine wpList_append_own_at _ hgd s x T ho base E i0 z 1 by_ hT hi hz0 hz1 hz2 hz (by decide) v n _ hs (hown.alloc _) ⟨w.heap.size, 0, none⟩ 1 1 [y] hx rfl (cell_one_new _ _ _) (fun u hu => by simp at hu; subst hu; exact hy) (by unfold maxLen; omega) ?_ (by simp; omega) ?_
  · have : (n + 1) * by_ ≤ 1000001 * 100 := Nat.mul_le_mul (by omega) hby
    omega
  · intro v' w' hown' hgrow _ hat
    refine h v' w' hown' ⟨hgrow.os, hgrow.tape, hgrow.output, ?_, fun k hk hne => ?_⟩ ?_
    · have := hgrow.size; simp at this; omega
    · rw [hgrow.block k (by simp; omega) hne]; exact Below.heap_alloc _ _ _ hk
    · rcases hat with hat | hat
      · exact .inl hat
      · exact .inr ⟨_, hat, by simp⟩

theorem own_slice {w : World} {base n : Nat} {E : TypeId} {v : Value} {xs : List Value} (h : w.ownsRow base E 1 v n xs) : ∃ a c, v = .slice a n c ∧ n ≤ c := by
  rcases h.2 with ⟨rfl, rfl⟩ | ⟨g, cap, cur, rfl, _, _, hc, _⟩
  · exact ⟨none, 0, rfl, Nat.le_refl _⟩
  · exact ⟨_, _, rfl, hc⟩
/-- One element of it. -/
theorem own_at {w : World} {base n c : Nat} {E : TypeId} {a : Option Addr} {xs : List Value} (h : w.ownsRow base E 1 (.slice a n c) n xs) {k : Nat} (hk : k < n) :
    ∃ g u, a = some ⟨g, 0, none⟩ ∧ base ≤ g ∧ g < w.heap.size ∧ xs[k]? = some u ∧ w.cell? ⟨g, k, none⟩ = some u := by
  have hl : xs.length = n := by simpa using h.1
  rcases h.2 with ⟨e, rfl⟩ | ⟨g, cap, cur, e, hb, hg, h1, h2, hs, ht⟩
  · omega
  · simp only [Value.slice.injEq] at e
    obtain ⟨rfl, _, rfl⟩ := e
    have := h.cells (g := g) rfl k (xs[k]'(by omega)) (by simp [List.getElem?_eq_getElem (show k < xs.length by omega)])
    rw [Addr.add_lit] at this
    exact ⟨g, _, rfl, hb, (Array.getElem?_eq_some_iff.1 hg).1, List.getElem?_eq_getElem (by omega), by simpa using this⟩

theorem own_set {w : World} {B n c g : Nat} {E : TypeId} {xs : List Value} (h : w.ownsRow B E 1 (.slice (some ⟨g, 0, none⟩) n c) n xs) (i : Nat) (u : Value) : (w.setCell ⟨g, i, none⟩ u).ownsRow B E 1 (.slice (some ⟨g, 0, none⟩) n c) n (xs.set i u) := by
  refine ⟨by rw [List.length_set]; exact h.1, .inr ?_⟩
  rcases h.2 with ⟨e, _⟩ | ⟨g', cap, cur, e, hb, hg, h1, h2, hs, ht⟩
  · simp at e
  · simp only [Value.slice.injEq, Option.some.injEq, Addr.mk.injEq, and_true, true_and] at e
    obtain ⟨rfl, rfl⟩ := e
    refine ⟨g, c, _, rfl, hb, heap_setCell_same w g i _ _ _ hg, h1, h2, by simpa using hs, ?_⟩
    rw [← ht]
    simp [List.take_set]

theorem own_frozen {w : World} {B n c g : Nat} {E : TypeId} {xs : List Value} (h : w.ownsRow B E 1 (.slice (some ⟨g, 0, none⟩) n c) n xs) (i : Nat) : w.frozen? ⟨g, i, none⟩ = false := by
  rcases h.2 with ⟨e, _⟩ | ⟨g', cap, cur, e, hb, hg, _⟩
  · simp at e
  · simp only [Value.slice.injEq, Option.some.injEq, Addr.mk.injEq, and_true, true_and] at e
    obtain ⟨rfl, rfl⟩ := e
    exact frozen_of_row w g i _ _ hg

theorem eql_nil {P : Program} (W : World) (t e : TypeId) (a : Addr) (l c : Nat) (h : P.underlying t = some (.slice e)) : (binOp .eql t (.slice (some a) l c) (.slice none 0 0)).run P W = .ok (.bool false) W := by
  simp only [binOp]
  simp [run_equal_slice_nil W t e (some a) l c h]

/-- Columns as cells. -/
def ins (L : List Nat) : List Value := L.map fun (n : Nat) => Value.int .i64 (n : Int)
theorem ins_len (L : List Nat) : (ins L).length = L.length := by simp [ins]
theorem ins_snoc (L : List Nat) (n : Nat) : ins L ++ [.int .i64 (n : Int)] = ins (L ++ [n]) := by simp [ins]
theorem ins_at {w : World} {base n c : Nat} {E : TypeId} {a : Option Addr} {L : List Nat} (h : w.ownsRow base E 1 (.slice a n c) n (ins L)) {k : Nat} (hk : k < n) :
    ∃ g, a = some ⟨g, 0, none⟩ ∧ base ≤ g ∧ g < w.heap.size ∧ w.cell? ⟨g, k, none⟩ = some (.int .i64 ((L.getD k 0 : Nat) : Int)) := by
  have hl : L.length = n := by have := h.1; rw [ins_len] at this; omega
  obtain ⟨g, u, h1, h2, h3, h4, h5⟩ := own_at h hk
  refine ⟨g, h1, h2, h3, ?_⟩
  have : (ins L)[k]? = some (.int .i64 ((L.getD k 0 : Nat) : Int)) := by simp [ins, List.getElem?_eq_getElem (show k < L.length by omega)]
  rw [this] at h4
  rw [h5, ← Option.some.inj h4]
/-- Ints as cells. -/
def zns (L : List Int) : List Value := L.map (Value.int .i64)
theorem zns_set (L : List Int) (i : Nat) (x : Int) : (zns L).set i (.int .i64 x) = zns (L.set i x) := by simp [zns, List.map_set]
theorem zns_snoc (L : List Int) (x : Int) : zns L ++ [.int .i64 x] = zns (L ++ [x]) := by simp [zns]
theorem zns_len (L : List Int) : (zns L).length = L.length := by simp [zns]
theorem zns_at {w : World} {base n c g : Nat} {E : TypeId} {L : List Int} (h : w.ownsRow base E 1 (.slice (some ⟨g, 0, none⟩) n c) n (zns L)) {k : Nat} (hk : k < n) :
    w.cell? ⟨g, k, none⟩ = some (.int .i64 (L.getD k 0)) := by
  have hl : L.length = n := by have := h.1; rw [zns_len] at this; omega
  obtain ⟨g', u, h1, h2, h3, h4, h5⟩ := own_at h hk
  simp only [Option.some.injEq, Addr.mk.injEq, and_true] at h1
  subst h1
  rw [h5, ← h4]
  simp [zns, List.getElem?_eq_getElem (show k < L.length by omega)]
end Go.Proofs.Ytoekicjppheemab

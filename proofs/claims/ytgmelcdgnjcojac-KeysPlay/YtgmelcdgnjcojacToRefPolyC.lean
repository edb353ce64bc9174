/- croftref.Norm, Add, Mul: the same rests, by other roads. · croftref.Neg, Pow, Inv. · croftref.Normal, croftref.Eval. -/
import Derived.Test.YtgmelcdgnjcojacProg
import Derived.Test.YtgmelcdgnjcojacToPolyM
import Derived.WalkKit
import Derived.WalkSpells
import Derived.WalkLawsBesides
namespace Go.Proofs.Ytgmelcdgnjcojac
open Go.RowKit Crm

set_option maxRecDepth 100000 in
theorem rNorm (a : Int) (w : World) (h0 : 0 ≤ a) (h1 : a ≤ 18446744073709551615) :
    Calls Try.prog 38 #[.int .u64 a] w fun e w' => e = .returned (.int .u64 (nm a)) ∧ w' = w := by
  have HN : Hid (nm a = a - a / 2147483647 * 2147483647) := by unfold nm Hid; omega
  go_enter Try.func38, Try.ntmps38
  go_wp2
  go_ret
  rw [HN.out]
  exact ⟨rfl, rfl⟩

set_option maxRecDepth 100000 in
theorem rAdd (a b : Int) (w : World) (h0 : 0 ≤ a) (h1 : a ≤ 18446744073709551615) (g0 : 0 ≤ b) (g1 : b ≤ 18446744073709551615) :
    Calls Try.prog 6 #[.int .u64 a, .int .u64 b] w fun e w' => e = .returned (.int .u64 (nm (a + b))) ∧ w' = w := by
  have ha := nm_bd a
  have hb := nm_bd b
  have HN : Hid (nm (a + b) = nm (nm a + nm b)) := by rw [nm_addl, nm_addr]; exact rfl
  go_enter Try.func6, Try.ntmps6
  go_wp2_with (go_at_call 38; refine (rNorm _ _ (by omega) (by omega)).mono ?_; rintro e w' ⟨rfl, rfl⟩)
  go_ret
  rw [HN.out]
  exact ⟨rfl, rfl⟩

theorem pred_pow (b : Int) {k : Nat} (hk : 0 < k) (x : Int) (h : x = b / 2 ^ k) : x = b / 2 ^ ((k - 1) + 1) := by
  rw [h, Nat.sub_add_cancel hk]

set_option maxRecDepth 100000 in
theorem rMul (a b : Int) (w : World) (h0 : 0 ≤ a) (h1 : a ≤ 18446744073709551615) (g0 : 0 ≤ b) (g1 : b ≤ 18446744073709551615) :
    Calls Try.prog 9 #[.int .u64 a, .int .u64 b] w fun e w' => e = .returned (.int .u64 (nm (a * b))) ∧ w' = w := by
  have ha := nm_bd a
  have hb := nm_bd b
  have HE : Hid (nm (a * b) = nm (nm a * nm b)) := by rw [nm_mull, nm_mulr]; exact rfl
  go_enter Try.func9, Try.ntmps9
  go_wp2_with (go_at_call 38; refine (rNorm _ _ (by omega) (by omega)).mono ?_; rintro e w' ⟨rfl, rfl⟩)
  go_loop [5, 6] (fun out i => ∃ (k : Nat) (o : Int), k ≤ 31 ∧ i = .int .i64 ((k : Int) - 1) ∧ out = .int .u64 o ∧ o = nm (nm a * (nm b / 2 ^ k))) (fun _ i => (intOf i + 1).toNat)
  case atStart =>
    refine ⟨31, 0, by omega, rfl, rfl, ?_⟩
    have : nm b / 2 ^ 31 = 0 := by omega
    rw [this, Int.mul_zero]; rfl
  case round =>
    obtain ⟨k, o, hk, rfl, rfl, hr⟩ := hrel
    have ho : 0 ≤ o ∧ o ≤ 2147483646 := by rw [hr]; exact nm_bd _
    have HR : Hid (o = nm (nm a * (nm b / 2 ^ k))) := hr
    clear hr
    have hoo := nm_bd (o + o)
    have hooa := nm_bd (nm (o + o) + nm a)
    by_cases hlt : 0 < k
    · have hq : 0 ≤ nm b / 2 ^ (k - 1) := Int.ediv_nonneg hb.1 (Int.le_of_lt (Int.pow_pos (by omega)))
      have HR2 : Hid (o = nm (nm a * (nm b / 2 ^ ((k - 1) + 1)))) := by rw [Nat.sub_add_cancel hlt]; exact HR
      by_cases hbit : (nm b / 2 ^ (k - 1)) % 2 = 1
      · have hb1 : ((nm b / 2 ^ (k - 1)) % 2 == 1) = true := by rw [beq_iff_eq]; exact hbit
        have HB : Hid (nm (nm (o + o) + nm a) = nm (nm a * (nm b / 2 ^ (k - 1)))) := mul_bit1 _ _ _ hbit o HR2.out
        clear hbit
        go_wp2_with (go_at_call 38; refine (rNorm _ _ (by omega) (by omega)).mono ?_; rintro e w' ⟨rfl, rfl⟩)
        go_round
        case rel => exact ⟨k - 1, _, by omega, by go_num, rfl, HB.out⟩
        case measure => simp [intOf]; omega
      · have hb1 : ((nm b / 2 ^ (k - 1)) % 2 == 1) = false := by rw [beq_eq_false_iff_ne]; exact hbit
        have HB : Hid (nm (o + o) = nm (nm a * (nm b / 2 ^ (k - 1)))) := mul_bit0 _ _ _ (by omega) o HR2.out
        clear hbit
        go_wp2_with (go_at_call 38; refine (rNorm _ _ (by omega) (by omega)).mono ?_; rintro e w' ⟨rfl, rfl⟩)
        go_round
        case rel => exact ⟨k - 1, _, by omega, by go_num, rfl, HB.out⟩
        case measure => simp [intOf]; omega
    · have HM : Hid (k = 0) := by unfold Hid; omega
      go_wp2
      go_ret
      have h := HR.out
      rw [HM.out, Int.pow_zero, Int.ediv_one, ← HE.out] at h
      rw [h]
      exact ⟨rfl, rfl⟩
end Go.Proofs.Ytgmelcdgnjcojac

namespace Go.Proofs.Ytgmelcdgnjcojac
open Go.RowKit Crm

set_option maxRecDepth 100000 in
theorem rNeg (a : Int) (w : World) (h0 : 0 ≤ a) (h1 : a ≤ 18446744073709551615) :
    Calls Try.prog 7 #[.int .u64 a] w fun e w' => e = .returned (.int .u64 (nm (-a))) ∧ w' = w := by
  have ha := nm_bd a
  have HN : Hid (nm (-a) = nm (2147483647 - nm a)) := by unfold nm Hid; omega
  go_enter Try.func7, Try.ntmps7
  go_wp2_with (go_at_call 38; refine (rNorm _ _ (by omega) (by omega)).mono ?_; rintro e w' ⟨rfl, rfl⟩)
  go_ret
  rw [HN.out]
  exact ⟨rfl, rfl⟩

set_option maxRecDepth 100000 in
theorem rInv (a : Int) (w : World) (h0 : 0 ≤ a) (h1 : a ≤ 18446744073709551615) (hz : nm a ≠ 0) :
    Calls Try.prog 41 #[.int .u64 a] w fun e w' => e = .returned (.int .u64 (iv a)) ∧ w' = w := by
  have ha := nm_bd a
  have HZ : Hid (nm a ≠ 0) := hz
  clear hz
  go_enter Try.func41, Try.ntmps41
  go_wp2_with (go_at_call 38; refine (rNorm _ _ (by omega) (by omega)).mono ?_; rintro e w' ⟨rfl, rfl⟩)
  go_loop [3, 4, 5, 6] (fun vr vn vx vt => ∃ r n x t : Int, vr = .int .u64 r ∧ vn = .int .u64 n ∧ vx = .int .u64 x ∧ vt = .int .u64 t ∧ (0 ≤ r ∧ r ≤ 2147483647) ∧ (0 ≤ n ∧ n ≤ 2147483647) ∧ (0 ≤ x ∧ x ≤ 2147483646) ∧ (0 ≤ t ∧ t ≤ 2147483646) ∧ nm (x * a) = nm r ∧ nm (t * a) = nm n ∧ Nat.gcd r.toNat n.toNat = 1) (fun _ vn _ _ => (intOf vn).toNat)
  case atStart =>
    refine ⟨2147483647, nm a, 0, 1, rfl, rfl, rfl, rfl, by omega, by omega, by omega, by omega, ?_, ?_, cop_int HZ.out⟩
    · rw [Int.zero_mul]; rfl
    · rw [Int.one_mul, nm_nm]
  case round =>
    obtain ⟨r, n, x, t, rfl, rfl, rfl, rfl, hr, hn, hx, ht, e1, e2, e3⟩ := hrel
    by_cases hlt : 0 < n
    · obtain ⟨b1, b2, b3, b4, b5, b6⟩ := eu_bd hr.1 hlt
      have HG : Hid (Nat.gcd n.toNat (r - r / n * n).toNat = 1) := eu_gcd hr.1 hlt e3
      have HT : Hid (nm (nm (x - r / n * t) * a) = nm (r - r / n * n)) := eu_step e1 e2
      have HE : Hid (nm (x + nm (-nm (r / n * t))) = nm (x - r / n * t)) := by unfold Hid; rw [nm_addr]; generalize r / n * t = y; unfold nm; omega
      have H2 : Hid (nm (t * a) = nm n) := e2
      clear e1 e2 e3
      have c1 := nm_bd (r / n * t)
      have c2 := nm_bd (-nm (r / n * t))
      have c3 := nm_bd (x + nm (-nm (r / n * t)))
      have hne : (n != 0) = true := by rw [bne_iff_ne]; omega
      go_wp2_with (first | (go_at_call 9; refine (rMul _ _ _ (by omega) (by omega) (by omega) (by omega)).mono ?_; rintro e w' ⟨rfl, rfl⟩) | (go_at_call 7; refine (rNeg _ _ (by omega) (by omega)).mono ?_; rintro e w' ⟨rfl, rfl⟩) | (go_at_call 6; refine (rAdd _ _ _ (by omega) (by omega) (by omega) (by omega)).mono ?_; rintro e w' ⟨rfl, rfl⟩))
      go_round
      case rel => exact ⟨n, r - r / n * n, t, nm (x + nm (-nm (r / n * t))), rfl, rfl, rfl, rfl, by omega, by omega, ht, c3, H2.out, by rw [HE.out]; exact HT.out, HG.out⟩
      case measure => simp [intOf]; omega
    · have HM : Hid (n = 0) := by unfold Hid; omega
      have H1 : Hid (nm (x * a) = nm r) := e1
      have H3 : Hid (Nat.gcd r.toNat n.toNat = 1) := e3
      clear e1 e2 e3
      have hne : (n != 0) = false := by have := HM.out; rw [this]; rfl
      go_wp2
      go_ret
      have h3 := H3.out
      rw [HM.out] at h3
      rw [eu_end h3 hr.1 H1.out hx.1 hx.2]
      exact ⟨rfl, rfl⟩
end Go.Proofs.Ytgmelcdgnjcojac

namespace Go.Proofs.Ytgmelcdgnjcojac
open Go.RowKit Crm

theorem infoR23 : (Try.prog.info? 23).map (fun i => (i.zero, i.size, i.bytes)) = some (some (.int .u64 0), 1, 8) := by kernel_rfl

def ntk (xs : List Int) (k : Nat) : List Int := (nz xs).take k
theorem out_step {xs : List Int} {k : Nat} (h : k < xs.length) {v : Int} (e : v = nm (xs.getD k 0)) : (ntk xs k).map (Value.int .u64) ++ [Value.int .u64 v] = (ntk xs (k + 1)).map (Value.int .u64) := by
  unfold ntk
  rw [List.take_succ_eq_append_getElem (show k < (nz xs).length by rw [nz_len]; exact h), List.map_append]
  congr 1
  rw [e, ← nz_getD]
  simp [List.getElem?_eq_getElem (show k < (nz xs).length by rw [nz_len]; exact h)]

set_option maxHeartbeats 400000 in
set_option maxRecDepth 100000 in
theorem rNormalO (a : Option Addr) (n c : Nat) (xs : List Int) (w : World) (h : Rd w a n c xs) (hn : n ≤ 1000000) :
    Calls Try.prog 62 #[.slice a n c] w fun e w' => ∃ a' c', e = .returned (.slice a' (tl (nz xs) n) c') ∧ w'.ownsRow w.heap.size 23 1 (.slice a' (tl (nz xs) n) c') (tl (nz xs) n) ((nrm xs).map (Value.int .u64)) ∧ Below w.heap.size w w' := by
  obtain ⟨i0, hi, hz0, hz1, hz2⟩ := info_parts infoR23
  have hlen := h.len
  go_enter Try.func62, Try.ntmps62
  go_wp2
  go_loop [3, 4] (fun l i => ∃ k : Nat, k ≤ n ∧ i = .int .i64 k ∧ l = .int .i64 ((tl (nz xs) k : Nat) - 1 : Int)) (fun _ i => n - (intOf i).toNat)
  case atStart => exact ⟨0, Nat.zero_le _, rfl, rfl⟩
  case round =>
    obtain ⟨k, hk, rfl, rfl⟩ := hrel
    by_cases hlt : k < n
    · obtain ⟨b, o, x, rfl, hb, HX, hx0, hx1, hc⟩ := h.one hlt
      by_cases hx : nm x = 0
      · have HT : Hid (tl (nz xs) (k + 1) = tl (nz xs) k) := tl_zero _ (by rw [nz_getD, HX.out]; exact hx)
        have hxb : (nm x != 0) = false := by rw [hx]; rfl
        clear hx
        go_wp2_with (go_at_call 38; refine (rNorm _ _ (by omega) (by omega)).mono ?_; rintro e w' ⟨rfl, rfl⟩)
        go_round
        case rel => exact ⟨k + 1, by omega, by go_num, by rw [HT.out]⟩
        case measure => simp [intOf]; omega
      · have HT : Hid (tl (nz xs) (k + 1) = k + 1) := tl_last _ (by rw [nz_getD, HX.out]; exact hx)
        have hxb : (nm x != 0) = true := by rw [bne_iff_ne]; exact hx
        go_wp2_with (go_at_call 38; refine (rNorm _ _ (by omega) (by omega)).mono ?_; rintro e w' ⟨rfl, rfl⟩)
        go_round
        case rel => exact ⟨k + 1, by omega, by go_num, by rw [HT.out]; go_num⟩
        case measure => simp [intOf]; omega
    · have hkn : k = n := by omega
      subst hkn
      have htl := tl_le (nz xs) k
      obtain ⟨m, hm⟩ : ∃ m, m = tl (nz xs) k := ⟨_, rfl⟩
      rw [← hm] at htl
      have HM : Hid (m = tl (nz xs) k) := hm
      rw [← hm]
      clear hm
      go_wp2
      go_loopw [5, 6] (fun v i wr => ∃ j : Nat, j ≤ m ∧ i = .int .i64 j ∧ wr.ownsRow w.heap.size 23 1 v j ((ntk xs j).map (Value.int .u64)) ∧ Below w.heap.size w wr) (fun _ i _ => m - (intOf i).toNat)
      case atStart => exact ⟨0, Nat.zero_le _, rfl, World.ownsRow_nil _ _ _ _, Below.refl _ _⟩
      case round =>
        obtain ⟨j, hj, rfl, hown, hbel⟩ := hrel
        by_cases hlt2 : j < m
        · obtain ⟨b, o, x, rfl, hb, HX, hx0, hx1, hc⟩ := (h.below hbel).one (show j < k by omega)
          have hsz := hbel.size
          go_wp2_with (first | (go_at_call 38; refine (rNorm _ _ (by omega) (by omega)).mono ?_; rintro e w' ⟨rfl, rfl⟩) | (at_builtin; refine wpList_append_own _ rfl _ _ 24 rfl w.heap.size 23 i0 (.int .u64 0) 1 8 Try.underlying24 hi hz0 hz1 hz2 rfl (by decide) _ _ _ rfl (hown.alloc _) ⟨_, 0, none⟩ 1 1 [.int .u64 (nm x)] rfl rfl ?c1 ?c2 ?c3 ?c4 ?c5 ?_))
          case c1 =>
            intro j u hj
            match j, hj with
            | 0, hj => simp at hj; subst hj; simp [Addr.add]
          case c2 => intro u hu; simp at hu; subst hu; rfl
          case c3 => unfold maxLen; omega
          case c4 => omega
          case c5 => simp; omega
          · intro v' w1 hown' hgrow _
            rw [out_step (by omega) (by rw [HX.out])] at hown'
            have hbel' : Below w.heap.size w w1 := (hbel.alloc (by omega) _).grown hgrow (by simp; omega) (fun k hk => (hown.lt k hk).1)
            clear hown hgrow hbel
            go_wp2
            go_roundw
            case rel => exact ⟨j + 1, by omega, by go_num, hown', hbel'⟩
            case measure => simp [intOf]; omega
        · have hjm : j = m := by omega
          subst hjm
          obtain ⟨a', c', rfl, hr, hfr⟩ := Rd.own hown (fun x hx => nz_bd xs x (List.mem_of_mem_take hx))
          go_wp2
          go_ret
          rw [← HM.out]
          refine ⟨a', c', rfl, ?_, hbel⟩
          have e : nrm xs = (nz xs).take j := by unfold nrm trm; rw [nz_len, hlen, ← HM.out]
          rw [e]
          exact hown
theorem rNormal (a : Option Addr) (n c : Nat) (xs : List Int) (w : World) (h : Rd w a n c xs) (hn : n ≤ 1000000) :
    Calls Try.prog 62 #[.slice a n c] w fun e w' => ∃ a' c', e = .returned (.slice a' (tl (nz xs) n) c') ∧ Rd w' a' (tl (nz xs) n) c' (nrm xs) ∧ Below w.heap.size w w' ∧ ∀ x, a' = some x → w.heap.size ≤ x.block := by
  refine (rNormalO _ _ _ _ _ h hn).mono ?_
  rintro e w' ⟨a', c', rfl, hown, hb⟩
  obtain ⟨a2, c2, e2, hr, hf⟩ := Rd.own hown (nrm_bd xs)
  simp only [Value.slice.injEq, true_and] at e2
  obtain ⟨rfl, rfl⟩ := e2
  exact ⟨a', c', rfl, hr, hb, hf⟩

theorem evstep (xs : List Int) (x : Int) {k : Nat} {y q z : Int} (h : k < xs.length) (hy : y = nm (ev (xs.take k) x)) (hq : q = pw x k) (hz : xs.getD k 0 = z) : nm (y + nm (z * q)) = nm (ev (xs.take (k + 1)) x) := by
  rw [ev_take xs x h, hz, hy, hq, nm_addl, nm_addr]
  exact nm_add_congr rfl (by unfold pw; rw [nm_mulr])

set_option maxHeartbeats 400000 in
set_option maxRecDepth 100000 in
theorem rEval (a : Option Addr) (n c : Nat) (xs : List Int) (x : Int) (w : World) (h : Rd w a n c xs) (hn : n ≤ 1000000) (g0 : 0 ≤ x) (g1 : x ≤ 18446744073709551615) :
    Calls Try.prog 75 #[.slice a n c, .int .u64 x] w fun e w' => e = .returned (.int .u64 (nm (ev xs x))) ∧ w' = w := by
  have hlen := h.len
  go_enter Try.func75, Try.ntmps75
  go_wp2
  go_loop [5, 6, 7] (fun s p i => ∃ (k : Nat) (y q : Int), k ≤ n ∧ i = .int .i64 k ∧ s = .int .u64 y ∧ p = .int .u64 q ∧ 0 ≤ y ∧ y ≤ 2147483646 ∧ 0 ≤ q ∧ q ≤ 2147483646 ∧ Hid (y = nm (ev (xs.take k) x)) ∧ Hid (q = pw x k)) (fun _ _ i => n - (intOf i).toNat)
  case atStart => exact ⟨0, 0, 1, Nat.zero_le _, rfl, rfl, rfl, by omega, by omega, by omega, by omega, rfl, (pw_zero x).symm⟩
  case round =>
    obtain ⟨k, y, q, hk, rfl, rfl, rfl, hy0, hy1, hq0, hq1, HY, HQ⟩ := hrel
    by_cases hlt : k < n
    · obtain ⟨b, o, z, rfl, hb, HZ, hz0, hz1, hc⟩ := h.one hlt
      have hmul := nm_bd (z * q)
      go_wp2_with (first | (go_at_call 9; refine (rMul _ _ _ (by omega) (by omega) (by omega) (by omega)).mono ?_; rintro e w' ⟨rfl, rfl⟩) | (go_at_call 6; refine (rAdd _ _ _ (by omega) (by omega) (by omega) (by omega)).mono ?_; rintro e w' ⟨rfl, rfl⟩))
      go_round
      case rel => exact ⟨k + 1, _, _, by omega, by go_num, rfl, rfl, (nm_bd _).1, (nm_bd _).2, (nm_bd _).1, (nm_bd _).2, evstep xs x (by omega) HY.out HQ.out HZ.out, by rw [HQ.out]; exact (pw_succ x k).symm⟩
      case measure => simp [intOf]; omega
    · have hkn : k = n := by omega
      subst hkn
      go_wp2
      go_ret
      rw [HY.out, List.take_of_length_le (by omega)]
      exact ⟨rfl, rfl⟩
end Go.Proofs.Ytgmelcdgnjcojac

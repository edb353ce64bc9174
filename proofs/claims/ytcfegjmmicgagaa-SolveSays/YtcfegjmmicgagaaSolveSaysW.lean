/- The walk of croftlaw.SolveSays. -/
import Derived.Test.YtcfegjmmicgagaaLeadsC
namespace Go.Proofs.Ytcfegjmmicgagaa
open Go.RowKit Crm

theorem mem_getN {L : List Nat} {i : Nat} (h : i ∈ L) : ∃ q, q < L.length ∧ L.getD q 0 = i := by
  obtain ⟨q, hq, e⟩ := List.getElem_of_mem h
  exact ⟨q, hq, by rw [List.getD_eq_getElem?_getD, List.getElem?_eq_getElem hq]; exact e⟩

theorem cIndex (a : Option Addr) (m c base : Nat) (L : List Nat) (i : Nat) (w : World) (h : w.ownsRow base 3 1 (.slice a m c) m (ins L)) (hi : i ∈ L) (hm : m ≤ 1000) :
    Calls Try.prog 49 #[.slice a m c, .int .i64 i] w fun e w' => ∃ q : Nat, e = .returned (.int .i64 q) ∧ w' = w := by
  have hl : L.length = m := by have := h.1; rw [ins_len] at this; omega
  obtain ⟨q0, hq0, eq0⟩ := mem_getN hi
  have HQ0 : Hid (L.getD q0 0 = i) := eq0
  clear eq0
  go_enter Try.func49, Try.ntmps49
  go_wp2
  go_loopw [8] (fun x wr => ∃ t : Nat, t ≤ m ∧ x = .int .i64 t ∧ Hid (∀ j, j < t → L.getD j 0 ≠ i) ∧ wr = w) (fun x _ => m - (intOf x).toNat)
  case atStart => exact ⟨0, Nat.zero_le _, rfl, fun j hj => by omega, rfl⟩
  case round =>
    obtain ⟨t, ht, rfl, HN, hw'⟩ := hrel
    have hw' := hw'.symm
    subst hw'
    by_cases htm : t < m
    · obtain ⟨g, rfl, hg1, hg2, hc⟩ := ins_at h htm
      obtain ⟨y, HY⟩ : ∃ y, Hid (L.getD t 0 = y) := ⟨_, rfl⟩
      rw [HY.out] at hc
      by_cases hy : i = y
      · have hyb : ((i : Int) == (y : Int)) = true := by rw [beq_iff_eq]; omega
        clear hy
        go_wp2
        go_ret
        exact ⟨⟨t, rfl⟩, rfl⟩
      · have hyb : ((i : Int) == (y : Int)) = false := by rw [beq_eq_false_iff_ne]; omega
        have HN2 : Hid (∀ j, j < t + 1 → L.getD j 0 ≠ i) := fun j hj => by
          by_cases e : j = t
          · rw [e, HY.out]; exact fun e2 => hy e2.symm
          · exact HN.out j (by omega)
        clear hy
        go_wp2
        go_roundw
        case rel => exact ⟨t + 1, by omega, by go_num, HN2, by trivial⟩
        case measure => simp [intOf]; omega
    · exact absurd HQ0.out (HN.out q0 (by omega))

theorem cContains (a : Option Addr) (m c base : Nat) (L : List Nat) (i : Nat) (w : World) (h : w.ownsRow base 3 1 (.slice a m c) m (ins L)) (hi : i ∈ L) (hm : m ≤ 1000) :
    Calls Try.prog 38 #[.slice a m c, .int .i64 i] w fun e w' => e = .returned (.bool true) ∧ w' = w := by
  go_enter Try.func38, Try.ntmps38
  go_wp2_with fail
  refine (cIndex a m c base L i w h hi hm).mono ?_
  rintro e w' ⟨q, rfl, hw'⟩
  have hw' := hw'.symm
  subst hw'
  have hq : decide ((0 : Int) ≤ (q : Int)) = true := decide_eq_true (by omega)
  go_wp2
  go_ret
  exact ⟨rfl, rfl⟩

set_option maxRecDepth 100000 in
set_option maxHeartbeats 1000000 in
theorem solveSaysW (a : Option Addr) (n c : Nat) (rs : List (List Int)) (v : Int) (w : World) (h : RdR w a n c rs) (hv0 : -9223372036854775808 ≤ v) (hv1 : v ≤ 9223372036854775807) :
    Calls Try.prog 7 #[.slice a n c, .int .i64 v] w fun e w' => e = .returned (.bool true) ∧ Below w.heap.size w w' := by
  by_cases hc : chk rs n v = 0
  · obtain ⟨k, hkv, hk1, hk2, hn, hwid⟩ := chk_of hc
    subst hkv
    have HC : Hid (chk rs n k = 0) := hc
    have HW : Hid (∀ i, i < n → (rs.getD i []).length = k + 1) := hwid
    clear hc hwid
    go_enter Try.func7, Try.ntmps7
    go_wp2_with fail
    refine (rEqs a n c rs k w h (by omega) (by omega)).mono ?_
    rintro e w' ⟨rfl, hw'⟩
    have hw' := hw'.symm
    subst hw'
    rw [HC.out]
    go_wp2_with fail
    refine (cRank1 a n c k rs w h HC.out).mono ?_
    rintro e w1 ⟨L, rfl, hL, hLn, hb1⟩
    obtain ⟨m, HM⟩ : ∃ m, Hid (L.length = m) := ⟨_, rfl⟩
    rw [HM.out] at hLn ⊢
    go_wp2_with fail
    refine (cSolve1 a n c k rs w1 (h.below hb1) HC.out).mono ?_
    rintro e w2 ⟨hsol, hb2⟩
    have hb02 : Below w.heap.size w w2 := hb1.trans (hb2.mono hb1.size)
    rcases hsol with ⟨hnd, rfl⟩ | ⟨g, V, hd, rfl, hS, hV, hg⟩
    · go_wp2_with fail
      refine (cCheck a n c rs k w2 (h.below hb02) (by omega) (by omega)).mono ?_
      rintro e w' ⟨rfl, hw'⟩
      have hw' := hw'.symm
      subst hw'
      rw [HC.out]
      go_wp2_with fail
      refine (rLeads a n c k rs w2 (h.below hb02) HW.out (by omega) (by omega)).mono ?_
      rintro e w3 ⟨u, L2, b, rfl, hown, hL2, hbd, hb3⟩
      have hLL := lds_one hL2 hL
      subst hLL
      rw [HM.out] at hown
      obtain ⟨aL, cL, rfl, hcL⟩ := own_slice hown
      have hbf : b = false := by cases b with | false => rfl | true => exact absurd (hbd.1 rfl) hnd
      subst hbf
      have hb03 : Below w.heap.size w w3 := hb02.trans (hb3.mono hb02.size)
      clear hnd hbd hL hL2 h hb1 hb2 hb02 hb3
      go_wp2
      go_ret
      exact ⟨rfl, hb03⟩
    · go_wp2_with fail
      refine (cCheck a n c rs k w2 (h.below hb02) (by omega) (by omega)).mono ?_
      rintro e w' ⟨rfl, hw'⟩
      have hw' := hw'.symm
      subst hw'
      rw [HC.out]
      go_wp2_with fail
      refine (rLeads a n c k rs w2 (h.below hb02) HW.out (by omega) (by omega)).mono ?_
      rintro e w3 ⟨u, L2, b, rfl, hown, hL2, hbd, hb3⟩
      have hLL := lds_one hL2 hL
      subst hLL
      rw [HM.out] at hown
      obtain ⟨aL, cL, rfl, hcL⟩ := own_slice hown
      have hbf : b = true := hbd.2 hd
      subst hbf
      have hb03 : Below w.heap.size w w3 := hb02.trans (hb3.mono hb02.size)
      have hV3 : Rd w3 (some ⟨g, 0, none⟩) k k V := ((hV.below hb3 hV.lt).whole k hS.len.symm (by unfold maxLen; omega) (bd_u64 hS.bd))
      have HS : Hid (Sol (mat rs) n k V) := hS
      have HLd : Hid (Lds (mat rs) n k L2) := hL2
      have h3 := h.below hb03
      clear hS hL hL2 hbd hd hV hb1 hb2 hb02 hb3 h
      go_wp2_with fail
      refine (rHolds a n c rs (some ⟨g, 0, none⟩) k k V w3 h3 hV3 HW.out (by omega) (by omega)).mono ?_
      rintro e w4 ⟨r, rfl, hr, hb4⟩
      have hrt : r = true := hr.2 ((okrow_ns rs V k n).2 HS.out.ns)
      subst hrt
      have hb04 : Below w.heap.size w w4 := hb03.trans (hb4.mono hb03.size)
      have hV4 := hV3.below hb4
      have hown4 := own_below hown hb4
      clear h3 hb03 hb4 hV3 hr hown
      go_wp2
      go_loopw [92] (fun i wr => ∃ t : Nat, t ≤ k ∧ i = .int .i64 t ∧ wr = w4) (fun i _ => k - (intOf i).toNat)
      case atStart => exact ⟨0, Nat.zero_le _, rfl, rfl⟩
      case round =>
        obtain ⟨t, ht, rfl, hw'⟩ := hrel
        have hw' := hw'.symm
        subst hw'
        by_cases htk : t < k
        · obtain ⟨b, o, x, e, hbb, HX, hx0, hx1, hcx⟩ := hV4.one htk
          simp only [Option.some.injEq, Addr.mk.injEq, and_true] at e
          obtain ⟨rfl, rfl⟩ := e
          rw [Nat.zero_add] at hcx
          have hxb : x ≤ 2147483646 := by rw [← HX.out]; exact (getD_bd' HS.out.bd t).2
          by_cases hx : x = 0
          · have hxb2 : (x == 0) = true := by rw [beq_iff_eq]; exact hx
            subst hx
            go_wp2
            go_roundw
            case rel => exact ⟨t + 1, by omega, by go_num, by trivial⟩
            case measure => simp [intOf]; omega
          · have hxb2 : (x == 0) = false := by rw [beq_eq_false_iff_ne]; exact hx
            have htL : t ∈ L2 := (HLd.out.lead t htk).2 (HS.out.own t htk (by rw [HX.out]; exact hx))
            have hxd : decide (2147483647 ≤ x) = false := decide_eq_false (by omega)
            clear hx
            go_wp2_with (first | (go_at_call 38; refine (cContains aL m cL w2.heap.size L2 t w4 hown4 htL (by omega)).mono ?_; rintro e w' ⟨rfl, hw'⟩; have hw' := hw'.symm; subst hw') | fail)
            all_goals
              go_roundw
              case rel => exact ⟨t + 1, by omega, by go_num, by trivial⟩
              case measure => simp [intOf]; omega
        · have htk2 : t = k := by omega
          subst htk2
          go_wp2
          go_ret
          exact ⟨rfl, hb04⟩
  · obtain ⟨z, hz⟩ : ∃ z, chk rs n v = z := ⟨_, rfl⟩
    have HZ : Hid (chk rs n v = z) := hz
    have hbd := chk_bd rs n v
    have hcr := cRank0 a n c rs v w h hv0 hv1 hc
    have hcs := cSolve0 a n c rs v w h hv0 hv1 hc
    have hck := cCheck a n c rs v w h hv0 hv1
    have hce := rEqs a n c rs v w h hv0 hv1
    rw [hz] at hcr hcs hck hce hbd hc
    clear hz
    have hzb : (z == 0) = false := by rw [beq_eq_false_iff_ne]; exact hc
    go_enter Try.func7, Try.ntmps7
    go_wp2_with fail
    refine hce.mono ?_
    rintro e w' ⟨rfl, hw'⟩
    have hw' := hw'.symm
    subst hw'
    go_wp2_with fail
    refine hcr.mono ?_
    rintro e w' ⟨rfl, hw'⟩
    have hw' := hw'.symm
    subst hw'
    go_wp2_with fail
    refine hcs.mono ?_
    rintro e w' ⟨rfl, hw'⟩
    have hw' := hw'.symm
    subst hw'
    go_wp2_with fail
    refine hck.mono ?_
    rintro e w' ⟨rfl, hw'⟩
    have hw' := hw'.symm
    subst hw'
    go_wp2
    go_ret
    exact ⟨rfl, Below.refl _ _⟩
end Go.Proofs.Ytcfegjmmicgagaa
